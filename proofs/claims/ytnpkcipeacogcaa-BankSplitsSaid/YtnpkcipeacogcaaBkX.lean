/- bank: Least. -/
import Derived.Test.YtnpkcipeacogcaaBkV

set_option linter.unusedSimpArgs false
set_option linter.unusedVariables false
namespace Go.Proofs.Ytnpkcipeacogcaa
open Go.RowKit Go.Shelf
attribute [local go_sem] Oper.semAt_some

def lackOf (bs : List Bat) (gs : List Gen) (l : List Spn) (fs : List Int) : Int := (anyL 0 (ply0 bs gs fs) (secsL l)).lacking
theorem lackOf_bd {bs : List Bat} {gs : List Gen} {l : List Spn} {fs : List Int} (ok : ArgsOk bs gs l) (h : Fl gs fs) : 0 ≤ lackOf bs gs l fs ∧ lackOf bs gs l fs ≤ 1000000 * 20000 := by
  have h1 := anyL_ok (t := 0) (ply0_ok ok.bat ok.gen (h.ok.bd ok.gen)) (secsL_bd ok.spn)
  have := h1.l0
  have := h1.l1
  have := ok.len
  unfold lackOf
  omega
/-- What Least keeps while it looks at lists. -/
structure LeS (w : World) (vb : Array Value) (lsl : Value) (gb gN : Nat) (m : Int) (W : World) : Prop where
  low : Below w.heap.size w W
  bb : Blk W w.heap.size 26 vb
  lo : Blk W (w.heap.size + 1) 28 #[lsl]
  gr : Blk W gb 3 #[.int .i64 m]
theorem LeS.kept {w : World} {vb : Array Value} {lsl : Value} {gb gN : Nat} {m : Int} {W W' : World} {row : Option Nat} (h : LeS w vb lsl gb gN m W) (hg : W.grownBy W' row) (h1 : w.heap.size + 1 < gN) (h2 : gb ≠ gN) (hr : ∀ r, row = some r → w.heap.size ≤ r ∧ (r = gN ∨ ∀ T cs, ¬ Blk W r T cs)) : LeS w vb lsl gb gN m W' := by
  have k : ∀ {b T cs}, Blk W b T cs → b ≠ gN → Blk W' b T cs := fun hb hn => hb.kept hg (fun e => by
    obtain ⟨_, h | h⟩ := hr _ e.symm
    · exact hn h
    · exact h _ _ hb)
  exact ⟨h.low.grown hg h.low.size (fun r e => (hr r e).1), k h.bb (by omega), k h.lo (by omega), k h.gr h2⟩
def LeI (w : World) (vb : Array Value) (lsl : Value) (gb gN : Nat) (lk : List Int → Int) (gs : List Gen) (b : Int) (pre : List Yl) (W : World) : Prop :=
  ∃ m, LeS w vb lsl gb gN m W ∧ 0 ≤ m ∧ (∀ y ∈ pre, lk y.l ≤ m) ∧ (m = 0 ∨ ∃ ts, Fl gs ts ∧ sumI ts ≤ b ∧ lk ts = m)
section
variable {w : World} {vb : Array Value} {lsl : Value} {gb gN : Nat} {lk : List Int → Int} {gs : List Gen} {b : Int} {B : Nat}
theorem LeI.own (h1 : w.heap.size + 1 < gN) (h2 : gb ≠ gN) (hB : w.heap.size ≤ B) : OwnFrom B (LeI w vb lsl gb gN lk gs b) := by
  rintro pre W W' row ⟨m, h, hr⟩ hg hrow
  exact ⟨m, h.kept hg h1 h2 (fun r e => by obtain ⟨h4, o, ho, hc⟩ := hrow r e; exact ⟨by omega, Or.inr (notcells ho hc)⟩), hr⟩
theorem LeI.abides (h1 : w.heap.size + 1 < gN) (h2 : gb ≠ gN) : AbidesG gN (LeI w vb lsl gb gN lk gs b) := by
  rintro pre W W' ⟨m, h, hr⟩ hg
  exact ⟨m, h.kept hg h1 h2 (fun r e => by cases e; exact ⟨by omega, Or.inl rfl⟩), hr⟩
end
/-- Behind the store. -/
def LeC (WS : World) (gb : Nat) (v : Value) (W : World) : Prop := ∃ W1, Below WS.heap.size WS W1 ∧ Keep (fun b => b = gb) W1 W ∧ Blk W gb 3 #[v]
theorem LeC.mk' {WS W : World} {gb : Nat} {u v : Value} (h : Below WS.heap.size WS W) (hb : Blk W gb 3 #[u]) : LeC WS gb v (W.setCell ⟨gb, 0, none⟩ v) := ⟨W, h, (Keep.refl (fun b => b = gb) W).setCell (p := ⟨gb, 0, none⟩) rfl _, hb.set_ 0 _⟩
theorem LeC.next {WS W W' : World} {gb : Nat} {v : Value} (h : LeC WS gb v W) (hb : Below W.heap.size W W') : LeC WS gb v W' := by
  obtain ⟨W1, h1, h2, h3⟩ := h
  exact ⟨W1, h1, h2.trans (Keep.of_below hb), h3.below hb h3.lt⟩
def lePhi (mx lk : Int) (vb vl vf : Value) : Nat → Value → World → (Nat → Nat) → Prop
  | 0, v, _, _ => v = .int .i64 mx
  | 1, v, _, _ => v = vb
  | 2, v, _, _ => v = vl
  | 3, v, _, _ => v = vf
  | 4, v, _, _ => v = .int .i64 lk
  | 5, v, _, _ => v = .int .i64 (if mx < lk then lk else mx)
  | 6, _, _, γ => γ 0 = 2
  | _, _, _, _ => True
theorem lePhi_w {mx lk : Int} {vb vl vf v : Value} {i : Nat} {W W' : World} {γ : Nat → Nat} (h : lePhi mx lk vb vl vf i v W γ) : lePhi mx lk vb vl vf i v W' γ := by
  unfold lePhi at h ⊢
  split at h <;> first | exact h | trivial
theorem lePhi_2 {mx lk : Int} {vb vl vf v : Value} {i : Nat} {W W' : World} {γ : Nat → Nat} (hi : i ≠ 6) (h : lePhi mx lk vb vl vf i v W γ) : lePhi mx lk vb vl vf i v W' (fun _ => 2) := by
  unfold lePhi at h ⊢
  split at h <;> first | exact h | exact absurd rfl hi | trivial
theorem least_keeps {W W1 W' : World} {gb B : Nat} (h2 : Below W.heap.size W W1) (hk : Keep (fun b => b = gb) W1 W') (hl : gb < B) :
    KeepsFrom B W W' ∧ W.heap.size ≤ W'.heap.size ∧ ∀ b, b ≠ gb → b < W.heap.size → W'.heap[b]? = W.heap[b]? := by
  have hz := Nat.le_trans h2.size hk.size
  have key : ∀ b, b ≠ gb → b < W.heap.size → W'.heap[b]? = W.heap[b]? := fun b n1 hb => by
    have k1 := h2.size
    exact (hk.block b (by omega) n1).trans (h2.block b hb)
  exact ⟨⟨hz, fun k o hB ho _ => (key k (by omega) (Array.getElem?_eq_some_iff.1 ho).1).trans ho⟩, hz, key⟩
def LeEnd (bs : List Bat) (gs : List Gen) (l : List Spn) (b m : Int) : Prop := (∀ ts, Fl gs ts → sumI ts ≤ b → lackOf bs gs l ts ≤ m) ∧ (m = 0 ∨ ∃ ts, Fl gs ts ∧ sumI ts ≤ b ∧ lackOf bs gs l ts = m)
set_option maxRecDepth 100000 in
set_option maxHeartbeats 4000000 in
theorem Least_any (bA gA lA : Option Addr) (bn bc n gc ln lc : Nat) (bs : List Bat) (gs : List Gen) (l : List Spn) (b : Int) (w : World)
    (hin : ArgsIn w w.heap.size bA bn bs gA n gs lA ln l) (ok : ArgsOk bs gs l) (b0 : 0 ≤ b) (b1 : b ≤ 1000000) (hs : cntL gs * ((secsL l).length : Nat) ≤ 4194304) :
    Calls Try.prog 21 #[.agg #[.slice bA bn bc, .slice gA n gc], .slice lA ln lc, .int .i64 b] w fun e w' => ∃ m, e = .returned (.tuple #[.int .i64 m, .int .i64 0]) ∧ Below w.heap.size w w' ∧ LeEnd bs gs l b m := by
  refine (callsIn_wide (n := 9)).1 ?_
  have HIN := Lib.hid hin
  have OK := Lib.hid ok
  have hgn : n ≤ 6 := by have := ok.ng; have := hin.gen.1; omega
  have KC := Lib.hid (fun W h => checkSearch_any bA gA lA bn bc n gc ln lc bs gs l b W h ok b0 hs)
  have KR : Hid (∀ (fA : Option Addr) (fc : Nat) (fs : List Int) (W : World), Below w.heap.size w W → Rd W W.heap.size 1 encI fA n fs → Fl gs fs → Calls Try.prog 37 #[.agg #[.slice bA bn bc, .slice gA n gc], .slice lA ln lc, .slice fA n fc] W fun e w' => e = .returned (.int .i64 (lackOf bs gs l fs)) ∧ Below W.heap.size W w') := Lib.hid (fun fA fc fs W hW hf hfl => lack_any bA gA lA fA bn bc n gc ln lc n fc bs gs l fs W (HIN.out.next hW) hf OK.out hfl.ok)
  have HBD := Lib.hid (fun fs h => lackOf_bd (bs := bs) (l := l) (fs := fs) ok h)
  have HGEN := Lib.hid hin.gen
  have HGOK : Hid (∀ g ∈ gs, GenOk g) := Lib.hid ok.gen
  unfold LeEnd
  obtain ⟨lkf, hlkf⟩ : ∃ z, z = lackOf bs gs l := ⟨_, rfl⟩
  rw [← hlkf] at KR HBD ⊢
  clear hin ok hs hlkf
  have KL := Lib.hid (fun W => lists_in Fence.wide 8 trivial rfl gA n gc b W)
  refine callsIn_of_wp_marks Try.func21 rfl trivial ?_ rfl
  simp only [Try.ntmps21, List.size_toArray, List.length_cons, List.length_nil, Nat.reduceAdd, Nat.reduceSub, Array.replicate_succ, Array.replicate_zero, List.push_toArray, List.append_toArray, List.nil_append, List.cons_append]
  gi_wp2_with fail
  refine ⟨trivial, ?_⟩
  refine (callsIn_wide.2 (KC.out _ (HIN.out.next (by (repeat' (first | (with_reducible exact Below.refl _ _) | (with_reducible assumption) | (with_reducible refine below_drewN ?_ _) | (with_reducible refine below_after (by assumption) ?_ ?_) | (with_reducible refine Below.drew ?_) | (with_reducible refine Below.alloc ?_ ?_ _) | (with_reducible refine Below.setCell ?_ ?_ _) | omega | (simp; omega) | (simp; done))))))).mono ?_
  rintro e w1 ⟨rfl, hB1⟩
  have HLw : Hid (Below w.heap.size w w1) := Lib.hid (below3 (((Below.refl w.heap.size w).alloc (Nat.le_refl _) _).alloc (by simp) _) hB1 (Nat.le_refl _))
  have q1 : Blk w1 w.heap.size 26 #[.slice bA bn bc, .slice gA n gc] := Blk.below (Blk.alloc (heap_alloc_new w _) _) hB1 (by simp; omega)
  have q2 : Blk w1 (w.heap.size + 1) 28 #[.slice lA ln lc] := by
    have h := heap_alloc_new (w.alloc (.cells #[.slice bA bn bc, .slice gA n gc] 26)) (.cells #[.slice lA ln lc] 28)
    rw [World.size_alloc] at h
    exact Blk.below h hB1 (by simp)
  have c0 : w1.cell? ⟨w.heap.size, 1, none⟩ = some (.slice gA n gc) := q1.cell 1
  have Q := Lib.hid (And.intro q1 q2)
  have zw : w.heap.size < w1.heap.size := by have := q2.lt; omega
  have zw1 : w.heap.size + 1 < w1.heap.size := q2.lt
  clear q1 q2 hB1 KC
  gi_wp2_with fail
  refine ⟨trivial, ?_⟩
  refine (KL.out _).mono ?_
  rintro e w2 ⟨rfl, rfl⟩
  gi_wp2
  obtain ⟨W0, hW0⟩ : ∃ z, z = ((w1.alloc (.cells #[.int .i64 0] 3)).alloc (.cells #[.slice gA n gc] 24)).alloc (.cells #[.int .i64 b] 3) := ⟨_, rfl⟩
  rw [← hW0]
  have hB0 : Below w1.heap.size w1 W0 := by rw [hW0]; (repeat' (first | (with_reducible exact Below.refl _ _) | (with_reducible assumption) | (with_reducible refine below_drewN ?_ _) | (with_reducible refine below_after (by assumption) ?_ ?_) | (with_reducible refine Below.drew ?_) | (with_reducible refine Below.alloc ?_ ?_ _) | (with_reducible refine Below.setCell ?_ ?_ _) | omega | (simp; omega) | (simp; done)))
  have hz0 : W0.heap.size = w1.heap.size + 3 := by rw [hW0]; simp
  have s1 : Blk W0 w1.heap.size 3 #[.int .i64 0] := by rw [hW0]; exact ((Blk.alloc (heap_alloc_new w1 _) _).alloc _)
  have s2 : Blk W0 (w1.heap.size + 1) 24 #[.slice gA n gc] := by
    have h := heap_alloc_new (w1.alloc (.cells #[.int .i64 0] 3)) (.cells #[.slice gA n gc] 24)
    rw [World.size_alloc] at h
    rw [hW0]; exact Blk.alloc h _
  have s3 : Blk W0 (w1.heap.size + 1 + 1) 3 #[.int .i64 b] := by
    have h := heap_alloc_new ((w1.alloc (.cells #[.int .i64 0] 3)).alloc (.cells #[.slice gA n gc] 24)) (.cells #[.int .i64 b] 3)
    rw [World.size_alloc, World.size_alloc] at h
    rw [hW0]; exact h
  have hLW0 := below3 HLw.out hB0 (Nat.le_refl _)
  have HS0 : Hid (LeS w #[.slice bA bn bc, .slice gA n gc] (.slice lA ln lc) w1.heap.size (W0.heap.size + 2) 0 W0) := Lib.hid ⟨hLW0, Q.out.1.below hB0 Q.out.1.lt, Q.out.2.below hB0 Q.out.2.lt, s1⟩
  have hseq := Lib.hid (lists1_seq (w1.heap.size + 1) (w1.heap.size + 1 + 1) w.heap.size gA n gc gs b W0 (HGEN.out.below hLW0) hLW0.size hgn HGOK.out b0 b1 s2 s3)
  clear hW0 hB0 s1 s2 s3 hLW0 c0 KL Q HLw
  refine range_block rfl (by omega) (gf := 50) (lb := #[.pointer (some ⟨w1.heap.size + 1, 0, none⟩), .pointer (some ⟨w1.heap.size + 1 + 1, 0, none⟩)]) rfl trivial (enters_of Try.func50 (by kernel_rfl) rfl)
    hseq.out (fun h k => h.trans k)
    (fun W l o o' hl ho hc _ => ⟨(grownBy_putObj' W l o').size, fun k hk hkl => (grownBy_putObj' W l o').block k hkl (by intro e; cases e; omega), fun t cs hb => hb.kept (grownBy_putObj' W l o') (by intro e; cases e; exact notcells ho hc _ _ hb)⟩)
    (Below.refl _ _) (fun _ => rfl)
    (fun x W l o o' hx ho hc => ⟨ownsRow_putObj hx.1 o' ho hc, hx.2.1, hx.2.2.1, Nat.lt_of_lt_of_le hx.2.2.2 (grownBy_putObj' W l o').size⟩)
    (LeI w #[.slice bA bn bc, .slice gA n gc] (.slice lA ln lc) w1.heap.size (W0.heap.size + 2) lkf gs b)
    (fun _ _ _ => False)
    (LeI.own (by omega) (by omega) (by omega)) (fun _ _ _ _ _ hs _ _ => hs) (LeI.abides (by omega) (by omega)) (fun _ _ _ _ hs _ => hs)
    ⟨0, HS0.out, Int.le_refl _, fun y hy => by simp at hy, Or.inl rfl⟩
    (fun x => { tmps := #[.agg #[.slice bA bn bc, .slice gA n gc], .slice lA ln lc, .int .i64 b, .pointer (some ⟨w.heap.size, 0, none⟩), .pointer (some ⟨w.heap.size + 1, 0, none⟩), undef, .int .i64 0, .int .i64 0, .int .i64 0, .pointer (some ⟨w1.heap.size, 0, none⟩), .slice x.A n x.c, .agg #[.slice bA bn bc, .slice gA n gc], .slice lA ln lc, .int .i64 b, .int .i64 0, .int .i64 0, .bool false, undef, .pointer (some ⟨w.heap.size, 1, none⟩), .slice gA n gc, .int .i64 b, .func (.func 50) #[] #[.pointer (some ⟨w1.heap.size + 1, 0, none⟩), .pointer (some ⟨w1.heap.size + 1 + 1, 0, none⟩)], .slice x.A n x.c, undef, undef, undef, undef, undef, undef, undef], defers := [] }) ?assign ?body ?done ?stop
  case assign =>
    rintro l x W K hK
    gi_wp2
    exact hK
  case body =>
    rintro l pre x WS ⟨mx, hS, hm0, hE, hM⟩ hX
    obtain ⟨hXr, hXf, hXs, hXg⟩ := hX
    have hrowx : WS.ownsRow w.heap.size 3 1 (.slice x.A n x.c) n (x.l.flatMap encI) := ⟨hXr.1, hXr.2.imp id fun ⟨g, cap, cu, e1, e2, e3⟩ => ⟨g, cap, cu, e1, by omega, e3⟩⟩
    have hrdx := row_rdI hrowx
    have KX : Hid (∀ W, Below WS.heap.size WS W → Calls Try.prog 37 #[.agg #[.slice bA bn bc, .slice gA n gc], .slice lA ln lc, .slice x.A n x.c] W fun e w' => e = .returned (.int .i64 (lkf x.l)) ∧ Below W.heap.size W w') := Lib.hid (fun W hW => KR.out x.A x.c x.l W (hS.low.trans (hW.mono hS.low.size)) (hrdx.next hW) hXf)
    obtain ⟨d0, d1⟩ := HBD.out x.l hXf
    have HB0 : Hid (WS.cell? ⟨w.heap.size, 0, none⟩ = some (.slice bA bn bc)) := Lib.hid (hS.bb.cell 0)
    have HB1 : Hid (WS.cell? ⟨w.heap.size, 1, none⟩ = some (.slice gA n gc)) := Lib.hid (hS.bb.cell 1)
    have HB2 : Hid (WS.cell? ⟨w.heap.size + 1, 0, none⟩ = some (.slice lA ln lc)) := Lib.hid (hS.lo.cell 0)
    have HCG : Hid (WS.cell? ⟨w1.heap.size, 0, none⟩ = some (.int .i64 mx)) := Lib.hid (hS.gr.cell 0)
    have HG := Lib.hid hS.gr
    have zg := hS.gr.lt
    have z0 := hS.bb.lt
    have z1 := hS.lo.lt
    have HS := Lib.hid hS
    have HE := Lib.hid hE
    have HM := Lib.hid hM
    have HXF := Lib.hid hXf
    obtain ⟨lk, hlk⟩ : ∃ z, z = lkf x.l := ⟨_, rfl⟩
    have HLK := Lib.hid hlk
    rw [← hlk] at KX d0 d1
    clear hS hE hM hXf hrowx hXr hrdx hlk
    gi_wp2
    refine wpIn_round_free10 (by kernel_rfl) 6 (by kernel_rfl) [some 23, some 24, some 25, some 26, some 27, some 28, none] [[], [], [], [], [1, 2, 3], [0, 4], [5, 4, 0, 1, 2, 3, 4, 5]] [(3, .pointer (some ⟨w.heap.size, 0, none⟩)), (4, .pointer (some ⟨w.heap.size + 1, 0, none⟩)), (9, .pointer (some ⟨w1.heap.size, 0, none⟩)), (10, .slice x.A n x.c)] (PhR (fun W => Below WS.heap.size WS W) (fun W => Below WS.heap.size WS W) (LeC WS w1.heap.size (.int .i64 (if mx < lk then lk else mx)))) (lePhi mx lk (.agg #[.slice bA bn bc, .slice gA n gc]) (.slice lA ln lc) (.slice x.A n x.c)) (phPsi 6) (by kernel_rfl) (by kernel_rfl) rfl (by kernel_rfl) ?_ ?_ ⟨fun _ => 0, PhR.begin (Below.refl _ _).drew, fun i _ => phPsi_0⟩ ?_ ?_
    · intro z hz
      simp only [List.mem_cons, List.mem_nil_iff, or_false] at hz
      rcases hz with rfl | rfl | rfl | rfl
      all_goals exact ⟨by kernel_rfl, rfl⟩
    · intro i v W γ hi h
      rcases i with _ | _ | _ | _ | _ | _ | _ | i
      all_goals first | exact h | (simp at hi)
    · refine ⟨?_, ?_, ?_, ?_, ?_, ?_, ?_, trivial⟩
      all_goals
        intro a W γ ev hcc hff hfx hR hψ hpre
        simp only [List.mem_cons, List.mem_nil_iff, or_false, forall_eq, forall_eq_or_imp] at hfx
        obtain ⟨f0, f1, f2, f3⟩ := hfx
        have HR := Lib.hid hR
        clear hR
        refine ⟨fun _ K hK => ?_, trivial⟩

      · have hL := PhR.not2 (C := fun W => Below WS.heap.size WS W) HR.out (hψ.2 (by decide)) (fun _ h => h) (fun _ h => h)
        have hc : W.cell? ⟨w1.heap.size, 0, none⟩ = some (.int .i64 mx) := (hL.cell (p := ⟨w1.heap.size, 0, none⟩) zg).trans HCG.out
        have hz := hL.size
        clear hpre hψ
        go_simp
        exact hK _ _ γ HR.out (fun _ _ _ _ h => h) (fun _ _ _ h => h) rfl
      · have hL := PhR.not2 (C := fun W => Below WS.heap.size WS W) HR.out (hψ.2 (by decide)) (fun _ h => h) (fun _ h => h)
        have hc : W.cell? ⟨w.heap.size, 0, none⟩ = some (.slice bA bn bc) := (hL.cell (p := ⟨w.heap.size, 0, none⟩) z0).trans HB0.out
        have hc2 : W.cell? ⟨w.heap.size, 1, none⟩ = some (.slice gA n gc) := (hL.cell (p := ⟨w.heap.size, 1, none⟩) z0).trans HB1.out
        have hz := hL.size
        clear hpre hψ
        go_simp
        exact hK _ _ γ HR.out (fun _ _ _ _ h => h) (fun _ _ _ h => h) rfl
      · have hL := PhR.not2 (C := fun W => Below WS.heap.size WS W) HR.out (hψ.2 (by decide)) (fun _ h => h) (fun _ h => h)
        have hc : W.cell? ⟨w.heap.size + 1, 0, none⟩ = some (.slice lA ln lc) := (hL.cell (p := ⟨w.heap.size + 1, 0, none⟩) z1).trans HB2.out
        have hz := hL.size
        clear hpre hψ
        go_simp
        exact hK _ _ γ HR.out (fun _ _ _ _ h => h) (fun _ _ _ h => h) rfl
      · clear hpre hψ
        go_simp
        exact hK _ _ γ HR.out (fun _ _ _ _ h => h) (fun _ _ _ h => h) rfl
      · have q0 : ev (.tmp 24) = _ := hpre 1 (by decide)
        have q1 : ev (.tmp 25) = _ := hpre 2 (by decide)
        have q2 : ev (.tmp 26) = _ := hpre 3 (by decide)
        have hL := PhR.not2 (C := fun W => Below WS.heap.size WS W) HR.out (hψ.2 (by decide)) (fun _ h => h) (fun _ h => h)
        have C := Lib.hid (KX.out W hL)
        clear hpre
        go_simp
        refine C.out.mono ?_
        rintro e w5 ⟨rfl, hB5⟩
        exact hK _ w5 γ (PhR.next HR.out (fun h => h.trans (hB5.mono h.size)) (fun h => h.trans (hB5.mono h.size)) (fun h => h.next hB5)) (fun _ _ _ _ h => lePhi_w h) (fun _ _ _ h => h) rfl
      · have q0 : ev (.tmp 23) = _ := hpre 0 (by decide)
        have q1 : ev (.tmp 27) = _ := hpre 4 (by decide)
        clear hpre hψ
        go_simp
        exact hK _ _ γ HR.out (fun _ _ _ _ h => h) (fun _ _ _ h => h) rfl
      · have q0 : ev (.tmp 28) = _ := hpre 5 (by decide)
        have hL := PhR.is0 HR.out (hψ.1 rfl)
        have hb := HG.out.below hL HG.out.lt
        have hc : W.cell? ⟨w1.heap.size, 0, none⟩ = some (.int .i64 mx) := hb.cell 0
        have fz := hb.frozen 0
        have hz := hb.lt
        have hfin := LeC.mk' hL hb (v := .int .i64 (if mx < lk then lk else mx))
        clear hb
        go_simp
        refine hK undef _ (fun _ => 2) (PhR.to2 hfin) (fun j u h1 h2 h3 => lePhi_2 h2 h3) (fun h => absurd rfl h) rfl
    · intro vs w' γ hvl hR hφ
      have qe : γ 0 = 2 := hφ 6 (by decide)
      have HR := Lib.hid hR
      clear hφ hR
      match vs, hvl with
      | [y0, y1, y2, y3, y4, y5, y6], _ =>
      have h2' := Lib.hid (PhR.is2 HR.out qe)
      clear qe HR
      simp [putAll]
      gi_wp2
      obtain ⟨W9, hk0, hk1, hk2⟩ := h2'.out
      obtain ⟨j1, j2, j3⟩ := least_keeps (B := W0.heap.size) hk0 hk1 (by omega)
      refine ⟨j1, ⟨j2, fun k hk hlt => j3 k (by omega) hlt, fun t cs hb => (j3 _ (by omega) hb.lt).trans hb⟩, _, ⟨HS.out.low.trans ((hk0.mono HS.out.low.size).trans (hk1.below (Nat.le_trans HS.out.low.size hk0.size) (fun b hb => by omega))), (j3 _ (by omega) HS.out.bb.lt).trans HS.out.bb, (j3 _ (by omega) HS.out.lo.lt).trans HS.out.lo, hk2⟩, by split <;> omega, fun y hy => ?_, ?_⟩
      · rcases List.mem_append.1 hy with hy | hy
        · have := HE.out y hy
          split <;> omega
        · rw [List.mem_singleton.1 hy, ← HLK.out]
          split <;> omega
      · split
        · exact Or.inr ⟨x.l, HXF.out, hXs, HLK.out.symm⟩
        · exact HM.out
  case done =>
    rintro D xs W hD hS ⟨m, hI, hm0, hE, hM⟩ hK
    have HALL : Hid (∀ ts, Fl gs ts → sumI ts ≤ b → lkf ts ≤ m) := Lib.hid (fun ts ht hts => by
      obtain ⟨y, hy, rfl⟩ := List.mem_map.1 (hS.2 ts ht hts)
      exact hE y hy)
    have c1 : W.cell? ⟨w1.heap.size, 0, none⟩ = some (.int .i64 m) := hI.gr.cell 0
    have zg := hI.gr.lt
    have HI := Lib.hid hI
    have HK := Lib.hid hK
    have HM := Lib.hid hM
    clear hS hE hI hK hM
    gi_wp2
    refine ⟨by simp, .inl ⟨_, _, rfl, run_takeDeferred HK.out, ?_⟩⟩
    exact ⟨_, results_tmp2 rfl _ _ _, m, rfl, HI.out.low.trans (belowK_b (w := w) (Nat.le_refl _) W D _ _ (by omega) HK.out rfl rfl), HALL.out, HM.out⟩
  case stop =>
    rintro D cd pre W _ _ h _
    exact h.elim
end Go.Proofs.Ytnpkcipeacogcaa
