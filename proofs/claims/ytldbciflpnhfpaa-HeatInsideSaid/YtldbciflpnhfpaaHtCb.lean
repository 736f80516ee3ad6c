/- heat: checkClass with one case more, Belongs, where all is valid. -/
import Derived.Test.YtldbciflpnhfpaaHtNb
import Derived.Maps.AppendAt

set_option linter.unusedSimpArgs false
set_option linter.unusedVariables false
namespace Go.Proofs.Ytldbciflpnhfpaa
open Go.RowKit

def ckmPhi (X0 : World) (kb : Nat) (hv c1 c2 mv : Value) (cs : Array Value) (xs : List Value) : Nat → Value → World → (Nat → Nat) → Prop
  | 0, v, _, _ => v = hv
  | 1, v, _, _ => v = .pointer (some ⟨kb, 0, none⟩)
  | 2, v, _, _ => v = c1
  | 3, v, _, _ => v = .pointer (some ⟨kb, 3, none⟩)
  | 4, v, _, _ => v = c2
  | 5, v, W, γ => ∃ b, v = .slice (some ⟨b, 0, none⟩) 2 2 ∧ X0.heap.size ≤ b ∧ (γ 1 = 0 → Blk W b 35 cs)
  | 6, v, _, _ => v = mv
  | 7, v, W, _ => ∃ (A : Option Addr) (c : Nat), v = .slice A 3 c ∧ W.ownsRow X0.heap.size 35 3 (.slice A 3 c) 3 xs
  | 8, v, _, _ => v = .int .i64 0
  | 9, v, _, _ => v = .int .i64 0
  | _, _, _, _ => True
theorem ckmPhi_next {X0 : World} {kb : Nat} {hv c1 c2 mv : Value} {cs : Array Value} {xs : List Value} {j : Nat} {v : Value} {W W' : World} {γ : Nat → Nat} (hb : Below W.heap.size W W') (h : ckmPhi X0 kb hv c1 c2 mv cs xs j v W γ) : ckmPhi X0 kb hv c1 c2 mv cs xs j v W' γ := by
  unfold ckmPhi at h ⊢
  split at h
  all_goals first | exact h | trivial | skip
  · obtain ⟨b, e, h0, h1⟩ := h; exact ⟨b, e, h0, fun z => (h1 z).below hb (h1 z).lt⟩
  · obtain ⟨A, c, e, h1⟩ := h; exact ⟨A, c, e, row_next h1 hb⟩
theorem ckmPhi_app {X0 : World} {kb : Nat} {hv c1 c2 mv : Value} {cs : Array Value} {xs : List Value} {j : Nat} {v : Value} {W W' : World} {γ γ' : Nat → Nat} (hγ : γ' 1 ≠ 0) (h7 : j ≠ 7) (h : ckmPhi X0 kb hv c1 c2 mv cs xs j v W γ) : ckmPhi X0 kb hv c1 c2 mv cs xs j v W' γ' := by
  unfold ckmPhi at h ⊢
  split at h
  all_goals first | exact h | trivial | exact absurd rfl h7 | skip
  · obtain ⟨b, e, h0, h1⟩ := h; exact ⟨b, e, h0, fun z => absurd z hγ⟩
set_option maxRecDepth 100000 in
set_option maxHeartbeats 1000000 in
theorem checkClass_one (rA wA bA cA : Option Addr) (rn rc wn wc bn bc cn cc : Nat) (aA zA mA : Option Addr) (ac zc mc mb : Nat) (o1 p1 o2 p2 o3 p3 : Int) (La Lb Lm : List Int) (h : Hl) (w : World) (hin : HlIn w w.heap.size ⟨rA, wA, bA, cA, rn, wn, bn, cn⟩ h) (ok : HlOk h) (hc : ClIn w rn aA zA o1 p1 o2 p2 La Lb) (hm : Blk w mb 35 #[.slice mA rn mc, .int .i64 o3, .int .i64 p3]) (rm : Rd w w.heap.size 1 encI mA rn Lm) (bm : ∀ y ∈ Lm, 0 ≤ y ∧ y ≤ 10000000) (bo : 0 ≤ o3 ∧ o3 ≤ 1000000) (bp : 0 ≤ p3 ∧ p3 ≤ 100000) :
    Calls Try.prog 35 #[.agg #[.slice rA rn rc, .slice wA wn wc, .slice bA bn bc, .slice cA cn cc], .agg #[.slice aA rn ac, .int .i64 o1, .int .i64 p1, .slice zA rn zc, .int .i64 o2, .int .i64 p2], .slice (some ⟨mb, 0, none⟩) 1 1] w fun e w' => e = .returned (.int .i64 0) ∧ Below w.heap.size w w' := by
  have hn8 : rn ≤ 8 := by have h9 := hin.rm.1; dsimp only at h9; rw [← h9]; exact ok.n8
  have KC := Lib.hid (fun W (hW : Below w.heap.size w W) => Check_ok rA wA bA cA rn rc wn wc bn bc cn cc h W (hin.next hW) ok)
  have KN := Lib.hid (fun (A : Option Addr) (c : Nat) W (hW : Below w.heap.size w W) (hk : Rd W W.heap.size 3 Cs.enc A 3 [⟨aA, rn, ac, o1, p1⟩, ⟨zA, rn, zc, o2, p2⟩, ⟨mA, rn, mc, o3, p3⟩]) => checkNumbers_yes rA wA bA cA rn rc wn wc bn bc cn cc none A 0 0 3 c [] [⟨aA, rn, ac, o1, p1⟩, ⟨zA, rn, zc, o2, p2⟩, ⟨mA, rn, mc, o3, p3⟩] W (by omega) (by omega) (by omega) (Rd.nil _ _ _ _) hk (fun x hx => by simp at hx) (fun x hx => by
    simp only [List.mem_cons, List.mem_nil_iff, or_false] at hx
    rcases hx with rfl | rfl | rfl
    · exact ⟨rfl, ⟨hc.o.1, hc.p.1⟩, La, hc.ra.next hW, hc.ba⟩
    · exact ⟨rfl, ⟨hc.o.2, hc.p.2⟩, Lb, hc.rb.next hW, hc.bb⟩
    · exact ⟨rfl, ⟨bo, bp⟩, Lm, rm.next hW, bm⟩))
  have KA := Lib.hid (fun W (hW : Below w.heap.size w W) => notAbove_any aA zA rn ac zc La Lb o1 p1 o2 p2 W (by omega) (hc.ra.next hW) (hc.rb.next hW))
  rw [hc.l, decide_eq_true hc.oo, decide_eq_true hc.pp] at KA
  obtain ⟨iC, x0, x1, x2, x3⟩ := info_parts caseInfo
  have hCI := Lib.hid (And.intro x0 (And.intro x1 (And.intro x2 x3)))
  have HMB := Lib.hid hm
  have g1 : w.heap.size < w.heap.size + 1 := by omega
  have g2 : w.heap.size < w.heap.size + 1 + 1 := by omega
  clear hin ok hc hn8 x0 x1 x2 x3 hm rm bm bo bp
  go_enter Try.func35, Try.ntmps35
  go_wp2_with fail
  obtain ⟨bx, hbx⟩ : ∃ z, z = w.heap.size := ⟨_, rfl⟩
  obtain ⟨w1, hw1⟩ : ∃ z, z = w.alloc (.cells #[.slice rA rn rc, .slice wA wn wc, .slice bA bn bc, .slice cA cn cc] 28) := ⟨_, rfl⟩
  have BX : Hid (Blk w1 bx 28 #[.slice rA rn rc, .slice wA wn wc, .slice bA bn bc, .slice cA cn cc]) := Lib.hid (by rw [hw1, hbx]; exact heap_alloc_new w _)
  have Sw1 : Hid (w1.heap.size = bx + 1) := Lib.hid (by rw [hw1, hbx, World.size_alloc])
  have Zbx : Hid (w.heap.size ≤ bx) := Lib.hid (by rw [hbx]; exact Nat.le_refl _)
  have hBn : Below w.heap.size w w1 := by rw [hw1]; exact (Below.refl _ _).alloc (Nat.le_refl _) _
  rw [← hw1, ← hbx]
  have B0 : Hid (Below w.heap.size w w1) := Lib.hid hBn
  clear hw1 hbx hBn
  obtain ⟨kb, hkb⟩ : ∃ z, z = bx + 1 := ⟨_, rfl⟩
  obtain ⟨w2, hw2⟩ : ∃ z, z = w1.alloc (.cells #[.slice aA rn ac, .int .i64 o1, .int .i64 p1, .slice zA rn zc, .int .i64 o2, .int .i64 p2] 37) := ⟨_, rfl⟩
  have KB : Hid (Blk w2 kb 37 #[.slice aA rn ac, .int .i64 o1, .int .i64 p1, .slice zA rn zc, .int .i64 o2, .int .i64 p2]) := Lib.hid (by have e2 := heap_alloc_new w1 (.cells #[.slice aA rn ac, .int .i64 o1, .int .i64 p1, .slice zA rn zc, .int .i64 o2, .int .i64 p2] 37); rw [Sw1.out] at e2; rw [hw2, hkb]; exact e2)
  have Sw2 : Hid (w2.heap.size = kb + 1) := Lib.hid (by rw [hw2, hkb, World.size_alloc, Sw1.out])
  have Zkb : Hid (w1.heap.size = kb) := Lib.hid (by rw [Sw1.out, hkb])
  have hBn : Below w1.heap.size w1 w2 := by rw [hw2]; exact (Below.refl _ _).alloc (Nat.le_refl _) _
  rw [← hw2, ← hkb]
  have B1 : Hid (Below w1.heap.size w1 w2) := Lib.hid hBn
  clear hw2 hkb hBn
  refine (KC.out _ (below3 B0.out B1.out (Nat.le_refl _))).mono ?_
  rintro e w3 ⟨rfl, hB⟩
  have B2 : Hid (Below w2.heap.size w2 w3) := Lib.hid hB
  clear hB
  clear g1 g2
  go_wp2_with fail
  have HBX := Lib.hid (BX.out.below (below3 B1.out B2.out (Nat.le_refl _)) BX.out.lt)
  have HKB := Lib.hid (KB.out.below B2.out KB.out.lt)
  have HLW := Lib.hid (below3 (below3 B0.out B1.out (Nat.le_refl _)) B2.out (Nat.le_refl _))
  have HMB3 := Lib.hid (HMB.out.below (below3 (below3 B0.out B1.out (Nat.le_refl _)) B2.out (Nat.le_refl _)) HMB.out.lt)
  refine wp_region_free10 9 (by kernel_rfl) [some 14, some 15, some 16, some 17, some 18, some 19, some 20, some 21, some 22, some 8] [[], [], [1], [], [3], [2, 4], [], [5, 6], [0, 7, 7], [8, 8, 0, 1, 2, 3, 4, 5, 6, 7, 8]] [(3, .pointer (some ⟨bx, 0, none⟩)), (4, .pointer (some ⟨kb, 0, none⟩)), (2, .slice (some ⟨mb, 0, none⟩) 1 1)] (fun W _ => Below w3.heap.size w3 W ∧ True) (ckmPhi w3 kb (.agg #[.slice rA rn rc, .slice wA wn wc, .slice bA bn bc, .slice cA cn cc]) (.agg #[.slice aA rn ac, .int .i64 o1, .int .i64 p1]) (.agg #[.slice zA rn zc, .int .i64 o2, .int .i64 p2]) (.slice (some ⟨mb, 0, none⟩) 1 1) #[.slice aA rn ac, .int .i64 o1, .int .i64 p1, .slice zA rn zc, .int .i64 o2, .int .i64 p2] [.slice aA rn ac, .int .i64 o1, .int .i64 p1, .slice zA rn zc, .int .i64 o2, .int .i64 p2, .slice mA rn mc, .int .i64 o3, .int .i64 p3]) (fun i _ γ => i = 7 → γ 1 = 0) (by kernel_rfl) (by kernel_rfl) rfl (by kernel_rfl) ?_ ?_ ⟨fun _ => 0, ⟨(Below.refl _ _).drew, trivial⟩, fun i _ _ => rfl⟩ ?_ ?_
  · intro z hz
    simp only [List.mem_cons, List.mem_nil_iff, or_false] at hz
    rcases hz with rfl | rfl | rfl
    all_goals exact ⟨by kernel_rfl, rfl⟩
  · intro i v W γ hi h
    rcases i with _ | _ | _ | _ | _ | _ | _ | _ | _ | _ | i
    all_goals first | exact h | (simp at hi)
  · refine ⟨?_, ?_, ?_, ?_, ?_, ?_, ?_, ?_, ?_, ?_, trivial⟩
    all_goals
      intro a9 W γ ev hcc hff hfx hR hψ hpre
      simp only [List.mem_cons, List.mem_nil_iff, or_false, forall_eq, forall_eq_or_imp] at hfx
      obtain ⟨f0, f1, f2⟩ := hfx
      have HR := Lib.hid hR
      clear hR
    · refine ⟨fun hg K hK => ?_, trivial⟩
      clear hg
      have hbk := HBX.out.below HR.out.1 HBX.out.lt
      have hzg := hbk.lt
      have e0 := hbk.cell 0
      have e1 := hbk.cell 1
      have e2 := hbk.cell 2
      have e3 := hbk.cell 3
      simp only [List.getElem?_toArray, List.getElem?_cons_zero, List.getElem?_cons_succ] at e0 e1 e2 e3
      clear hbk
      clear hpre hψ
      go_simp
      exact hK _ _ γ HR.out (fun _ _ _ _ h => h) (fun _ _ _ h => h) rfl
    · refine ⟨fun hg K hK => ?_, trivial⟩
      clear hg
      clear hpre hψ
      go_simp
      exact hK _ _ γ HR.out (fun _ _ _ _ h => h) (fun _ _ _ h => h) rfl
    · refine ⟨fun hg K hK => ?_, trivial⟩
      clear hg
      have q0 : ev (.tmp 15) = _ := hpre 1 (by decide)
      have hbk := HKB.out.below HR.out.1 HKB.out.lt
      have hzg := hbk.lt
      have e0 := hbk.cell 0
      have e1 := hbk.cell 1
      have e2 := hbk.cell 2
      simp only [List.getElem?_toArray, List.getElem?_cons_zero, List.getElem?_cons_succ] at e0 e1 e2
      clear hbk
      clear hpre hψ
      go_simp
      exact hK _ _ γ HR.out (fun _ _ _ _ h => h) (fun _ _ _ h => h) rfl
    · refine ⟨fun hg K hK => ?_, trivial⟩
      clear hg
      clear hpre hψ
      go_simp
      exact hK _ _ γ HR.out (fun _ _ _ _ h => h) (fun _ _ _ h => h) rfl
    · refine ⟨fun hg K hK => ?_, trivial⟩
      clear hg
      have q0 : ev (.tmp 17) = _ := hpre 3 (by decide)
      have hbk := HKB.out.below HR.out.1 HKB.out.lt
      have hzg := hbk.lt
      have e3 := hbk.cell 3
      have e4 := hbk.cell 4
      have e5 := hbk.cell 5
      simp only [List.getElem?_toArray, List.getElem?_cons_zero, List.getElem?_cons_succ] at e3 e4 e5
      clear hbk
      clear hpre hψ
      go_simp
      exact hK _ _ γ HR.out (fun _ _ _ _ h => h) (fun _ _ _ h => h) rfl
    · refine ⟨fun hg K hK => ?_, trivial⟩
      clear hg
      have q0 : ev (.tmp 16) = _ := hpre 2 (by decide)
      have q1 : ev (.tmp 18) = _ := hpre 4 (by decide)
      have HRW9 := HR
      have HP := Lib.hid hψ
      clear hpre hψ
      go_simp
      have hB5 : Below W.heap.size W (W.alloc (.cells #[.slice aA rn ac, .int .i64 o1, .int .i64 p1, .slice zA rn zc, .int .i64 o2, .int .i64 p2] 35)) := (Below.refl _ _).alloc (Nat.le_refl _) _
      exact hK _ _ γ ⟨below3 HRW9.out.1 hB5 (Nat.le_refl _), trivial⟩ (fun j u _ _ h => ckmPhi_next hB5 h) (fun _ _ _ h => h) ⟨W.heap.size, rfl, HRW9.out.1.size, fun _ => heap_alloc_new W _⟩
    · refine ⟨fun hg K hK => ?_, trivial⟩
      clear hg
      clear hpre hψ
      go_simp
      exact hK _ _ γ HR.out (fun _ _ _ _ h => h) (fun _ _ _ h => h) rfl
    · refine ⟨fun hg K hK => ?_, trivial⟩
      clear hg
      have q0 : ev (.tmp 20) = _ := hpre 6 (by decide)
      obtain ⟨b1, q5, hz1, hb1⟩ := hpre 5 (by decide)
      replace q5 : ev (.tmp 19) = _ := q5
      have hb1 := hb1 (hψ rfl)
      have hm3 := HMB3.out.below HR.out.1 HMB3.out.lt
      have hown : W.ownsRow w3.heap.size 35 3 (.slice (some ⟨b1, 0, none⟩) 2 2) 2 [.slice aA rn ac, .int .i64 o1, .int .i64 p1, .slice zA rn zc, .int .i64 o2, .int .i64 p2] := ⟨rfl, .inr ⟨b1, 2, #[.slice aA rn ac, .int .i64 o1, .int .i64 p1, .slice zA rn zc, .int .i64 o2, .int .i64 p2], rfl, hz1, hb1, by omega, by simp only [maxLen]; omega, rfl, rfl⟩⟩
      obtain ⟨v', W', hr, h2, h3, _, _⟩ := run_append_own_at (P := Try.prog) W w3.heap.size 49 49 35 iC (.agg #[.slice none 0 0, .int .i64 0, .int .i64 0]) 3 40 Try.underlying49 hCI.out.1 hCI.out.2.1 hCI.out.2.2.1 hCI.out.2.2.2 rfl (by decide) (.slice (some ⟨b1, 0, none⟩) 2 2) 2 [.slice aA rn ac, .int .i64 o1, .int .i64 p1, .slice zA rn zc, .int .i64 o2, .int .i64 p2] hown ⟨mb, 0, none⟩ 1 1 [.slice mA rn mc, .int .i64 o3, .int .i64 p3] rfl (fun j u hj => by
        rw [add0, Blk.cell hm3]
        simpa using hj) (by intro u hu; simp only [List.mem_cons, List.mem_nil_iff, or_false] at hu; rcases hu with rfl | rfl | rfl <;> rfl) (by simp only [maxLen]; omega) (by omega) HR.out.1.size
      unfold execOp
      simp only [resolve, invoke, builtin, Sem.run_bind, Sem.run_pure, Result.andThen_ok, List.map_toArray, List.map_cons, List.map_nil, q0, q5, hr]
      obtain ⟨A', c', e'⟩ := row_slice h2
      subst e'
      have hbl : Below w3.heap.size W W' := (Below.refl _ _).grown h3 HR.out.1.size (fun r e => (World.ownsRow.lt hown r e).1)
      exact hK _ W' (fun i => if i = 1 then 1 else γ i) ⟨HR.out.1.trans hbl, trivial⟩ (fun j u hj hne h => ckmPhi_app (by simp) hne h) (fun _ j h1 h2 => fun e => absurd e h1) ⟨A', c', rfl, h2⟩
    · refine ⟨fun hg K hK => ?_, trivial⟩
      clear hg
      have q0 : ev (.tmp 14) = _ := hpre 0 (by decide)
      obtain ⟨A7, c7, q5, hb1⟩ := hpre 7 (by decide)
      replace q5 : ev (.tmp 21) = _ := q5
      have hrd : Rd W W.heap.size 3 Cs.enc A7 3 [⟨aA, rn, ac, o1, p1⟩, ⟨zA, rn, zc, o2, p2⟩, ⟨mA, rn, mc, o3, p3⟩] := row_rd (f := Cs.enc) (size := 3) (fun _ => rfl) rfl hb1
      have C := Lib.hid (KN.out A7 c7 W (below3 HLW.out HR.out.1 (Nat.le_refl _)) hrd)
      have HX := Lib.hid HR.out
      have HP := Lib.hid hψ
      clear hpre hψ hb1 hrd
      go_simp
      refine C.out.mono ?_
      rintro e w7 ⟨rfl, hB9⟩
      exact hK _ w7 γ ⟨below3 HX.out.1 hB9 (Nat.le_refl _), trivial⟩ (fun j u hj hne h => ckmPhi_next hB9 h) (fun _ _ _ h => h) rfl
    · refine ⟨fun hg K hK => ?_, trivial⟩
      clear hg
      have q0 : ev (.tmp 22) = _ := hpre 8 (by decide)
      clear hpre hψ
      go_simp
      exact hK _ _ γ HR.out (fun _ _ _ _ h => h) (fun _ _ _ h => h) rfl
  · intro vs w4 γ hvl hR hφ
    have q9 := hφ 9 (by decide)
    have HR := Lib.hid hR
    clear hφ hR
    match vs, hvl with
    | [y0, y1, y2, y3, y4, y5, y6, y7, y8, y9], _ =>
    simp only [List.getD_cons_zero, List.getD_cons_succ] at q9
    replace q9 : y9 = .int .i64 0 := q9
    have B3 : Hid (Below w3.heap.size w3 w4) := Lib.hid HR.out.1
    clear HR
    simp [putAll, q9]
    clear q9
    have hbk := KB.out.below (below3 B2.out B3.out (Nat.le_refl _)) KB.out.lt
    have s0 := hbk.cell 0
    have s1 := hbk.cell 1
    have s2 := hbk.cell 2
    have s3 := hbk.cell 3
    have s4 := hbk.cell 4
    have s5 := hbk.cell 5
    simp only [List.getElem?_toArray, List.getElem?_cons_zero, List.getElem?_cons_succ] at s0 s1 s2 s3 s4 s5
    have zs := hbk.lt
    clear hbk
    go_wp2_with fail
    refine (KA.out _ (below3 (below3 (below3 B0.out B1.out (Nat.le_refl _)) B2.out (Nat.le_refl _)) B3.out (Nat.le_refl _))).mono ?_
    rintro e w5 ⟨rfl, hB⟩
    have B4 : Hid (Below w4.heap.size w4 w5) := Lib.hid hB
    clear hB
    have HF := Lib.hid ((below3 (below3 (below3 (below3 B0.out B1.out (Nat.le_refl _)) B2.out (Nat.le_refl _)) B3.out (Nat.le_refl _)) B4.out (Nat.le_refl _)))
    go_wp2
    go_ret
    exact ⟨rfl, HF.out⟩
set_option maxRecDepth 100000 in
set_option maxHeartbeats 1000000 in
theorem Belongs_yes (rA wA bA cA : Option Addr) (rn rc wn wc bn bc cn cc : Nat) (aA zA mA : Option Addr) (ac zc mc : Nat) (o1 p1 o2 p2 o3 p3 : Int) (La Lb Lm : List Int) (h : Hl) (w : World) (hin : HlIn w w.heap.size ⟨rA, wA, bA, cA, rn, wn, bn, cn⟩ h) (ok : HlOk h) (hc : ClIn w rn aA zA o1 p1 o2 p2 La Lb) (rm : Rd w w.heap.size 1 encI mA rn Lm) (bm : ∀ y ∈ Lm, 0 ≤ y ∧ y ≤ 10000000) (bo : 0 ≤ o3 ∧ o3 ≤ 1000000) (bp : 0 ≤ p3 ∧ p3 ≤ 100000) (l1 : leB La Lm = true) (l2 : leB Lm Lb = true) (q1 : o1 ≤ o3 ∧ o3 ≤ o2) (q2 : p2 ≤ p3 ∧ p3 ≤ p1) :
    Calls Try.prog 20 #[.agg #[.slice rA rn rc, .slice wA wn wc, .slice bA bn bc, .slice cA cn cc], .agg #[.slice aA rn ac, .int .i64 o1, .int .i64 p1, .slice zA rn zc, .int .i64 o2, .int .i64 p2], .agg #[.slice mA rn mc, .int .i64 o3, .int .i64 p3]] w fun e w' => e = .returned (.tuple #[.bool true, .int .i64 0]) ∧ Below w.heap.size w w' := by
  have hn8 : rn ≤ 8 := by have h9 := hin.rm.1; dsimp only at h9; rw [← h9]; exact ok.n8
  have KC := Lib.hid (fun (mb : Nat) W (hW : Below w.heap.size w W) (hm : Blk W mb 35 #[.slice mA rn mc, .int .i64 o3, .int .i64 p3]) => checkClass_one rA wA bA cA rn rc wn wc bn bc cn cc aA zA mA ac zc mc mb o1 p1 o2 p2 o3 p3 La Lb Lm h W (hin.next hW) ok (hc.next hW) hm (rm.next hW) bm bo bp)
  have K1 := Lib.hid (fun W (hW : Below w.heap.size w W) => notAbove_any aA mA rn ac mc La Lm o1 p1 o3 p3 W (by omega) (hc.ra.next hW) (rm.next hW))
  have K2 := Lib.hid (fun W (hW : Below w.heap.size w W) => notAbove_any mA zA rn mc zc Lm Lb o3 p3 o2 p2 W (by omega) (rm.next hW) (hc.rb.next hW))
  rw [l1, decide_eq_true q1.1, decide_eq_true q2.2] at K1
  rw [l2, decide_eq_true q1.2, decide_eq_true q2.1] at K2
  have g1 : w.heap.size < w.heap.size + 1 := by omega
  have g2 : w.heap.size < w.heap.size + 1 + 1 := by omega
  have g3 : w.heap.size + 1 < w.heap.size + 1 + 1 := by omega
  clear hin ok hc hn8 rm bm bo bp l1 l2 q1 q2
  go_enter Try.func20, Try.ntmps20
  go_wp2_with fail
  obtain ⟨bx, hbx⟩ : ∃ z, z = w.heap.size := ⟨_, rfl⟩
  obtain ⟨w1, hw1⟩ : ∃ z, z = w.alloc (.cells #[.slice rA rn rc, .slice wA wn wc, .slice bA bn bc, .slice cA cn cc] 28) := ⟨_, rfl⟩
  have BX : Hid (Blk w1 bx 28 #[.slice rA rn rc, .slice wA wn wc, .slice bA bn bc, .slice cA cn cc]) := Lib.hid (by rw [hw1, hbx]; exact heap_alloc_new w _)
  have Sw1 : Hid (w1.heap.size = bx + 1) := Lib.hid (by rw [hw1, hbx, World.size_alloc])
  have Zbx : Hid (w.heap.size ≤ bx) := Lib.hid (by rw [hbx]; exact Nat.le_refl _)
  have hBn : Below w.heap.size w w1 := by rw [hw1]; exact (Below.refl _ _).alloc (Nat.le_refl _) _
  rw [← hw1, ← hbx]
  have B0 : Hid (Below w.heap.size w w1) := Lib.hid hBn
  clear hw1 hbx hBn
  obtain ⟨kb, hkb⟩ : ∃ z, z = bx + 1 := ⟨_, rfl⟩
  obtain ⟨w2, hw2⟩ : ∃ z, z = w1.alloc (.cells #[.slice aA rn ac, .int .i64 o1, .int .i64 p1, .slice zA rn zc, .int .i64 o2, .int .i64 p2] 37) := ⟨_, rfl⟩
  have KB : Hid (Blk w2 kb 37 #[.slice aA rn ac, .int .i64 o1, .int .i64 p1, .slice zA rn zc, .int .i64 o2, .int .i64 p2]) := Lib.hid (by have e2 := heap_alloc_new w1 (.cells #[.slice aA rn ac, .int .i64 o1, .int .i64 p1, .slice zA rn zc, .int .i64 o2, .int .i64 p2] 37); rw [Sw1.out] at e2; rw [hw2, hkb]; exact e2)
  have Sw2 : Hid (w2.heap.size = kb + 1) := Lib.hid (by rw [hw2, hkb, World.size_alloc, Sw1.out])
  have Zkb : Hid (w1.heap.size = kb) := Lib.hid (by rw [Sw1.out, hkb])
  have hBn : Below w1.heap.size w1 w2 := by rw [hw2]; exact (Below.refl _ _).alloc (Nat.le_refl _) _
  rw [← hw2, ← hkb]
  have B1 : Hid (Below w1.heap.size w1 w2) := Lib.hid hBn
  clear hw2 hkb hBn
  obtain ⟨cb, hcb⟩ : ∃ z, z = kb + 1 := ⟨_, rfl⟩
  obtain ⟨w3, hw3⟩ : ∃ z, z = w2.alloc (.cells #[.slice mA rn mc, .int .i64 o3, .int .i64 p3] 35) := ⟨_, rfl⟩
  have CB : Hid (Blk w3 cb 35 #[.slice mA rn mc, .int .i64 o3, .int .i64 p3]) := Lib.hid (by have e2 := heap_alloc_new w2 (.cells #[.slice mA rn mc, .int .i64 o3, .int .i64 p3] 35); rw [Sw2.out] at e2; rw [hw3, hcb]; exact e2)
  have Sw3 : Hid (w3.heap.size = cb + 1) := Lib.hid (by rw [hw3, hcb, World.size_alloc, Sw2.out])
  have Zcb : Hid (w2.heap.size = cb) := Lib.hid (by rw [Sw2.out, hcb])
  have hBn : Below w2.heap.size w2 w3 := by rw [hw3]; exact (Below.refl _ _).alloc (Nat.le_refl _) _
  rw [← hw3, ← hcb]
  have B2 : Hid (Below w2.heap.size w2 w3) := Lib.hid hBn
  clear hw3 hcb hBn
  obtain ⟨mb, hmb⟩ : ∃ z, z = cb + 1 := ⟨_, rfl⟩
  obtain ⟨w4, hw4⟩ : ∃ z, z = w3.alloc (.cells #[.slice mA rn mc, .int .i64 o3, .int .i64 p3] 35) := ⟨_, rfl⟩
  have MB : Hid (Blk w4 mb 35 #[.slice mA rn mc, .int .i64 o3, .int .i64 p3]) := Lib.hid (by have e2 := heap_alloc_new w3 (.cells #[.slice mA rn mc, .int .i64 o3, .int .i64 p3] 35); rw [Sw3.out] at e2; rw [hw4, hmb]; exact e2)
  have Sw4 : Hid (w4.heap.size = mb + 1) := Lib.hid (by rw [hw4, hmb, World.size_alloc, Sw3.out])
  have Zmb : Hid (w3.heap.size = mb) := Lib.hid (by rw [Sw3.out, hmb])
  have hBn : Below w3.heap.size w3 w4 := by rw [hw4]; exact (Below.refl _ _).alloc (Nat.le_refl _) _
  rw [← hw4, ← hmb]
  have B3 : Hid (Below w3.heap.size w3 w4) := Lib.hid hBn
  clear hw4 hmb hBn
  clear g1 g2 g3
  refine (KC.out mb w4 (below3 (below3 (below3 B0.out B1.out (Nat.le_refl _)) B2.out (Nat.le_refl _)) B3.out (Nat.le_refl _)) MB.out).mono ?_
  rintro e w5 ⟨rfl, hB⟩
  have B4 : Hid (Below w4.heap.size w4 w5) := Lib.hid hB
  clear hB
  have hbk := KB.out.below (below3 (below3 B2.out B3.out (Nat.le_refl _)) B4.out (Nat.le_refl _)) KB.out.lt
  have s0 := hbk.cell 0
  have s1 := hbk.cell 1
  have s2 := hbk.cell 2
  have s3 := hbk.cell 3
  have s4 := hbk.cell 4
  have s5 := hbk.cell 5
  simp only [List.getElem?_toArray, List.getElem?_cons_zero, List.getElem?_cons_succ] at s0 s1 s2 s3 s4 s5
  have zs := hbk.lt
  clear hbk
  have hbk := CB.out.below (below3 B3.out B4.out (Nat.le_refl _)) CB.out.lt
  have t0 := hbk.cell 0
  have t1 := hbk.cell 1
  have t2 := hbk.cell 2
  simp only [List.getElem?_toArray, List.getElem?_cons_zero, List.getElem?_cons_succ] at t0 t1 t2
  have zt := hbk.lt
  clear hbk
  go_wp2_with fail
  refine (K1.out _ (below3 (below3 (below3 (below3 B0.out B1.out (Nat.le_refl _)) B2.out (Nat.le_refl _)) B3.out (Nat.le_refl _)) B4.out (Nat.le_refl _))).mono ?_
  rintro e w6 ⟨rfl, hB⟩
  have B5 : Hid (Below w5.heap.size w5 w6) := Lib.hid hB
  clear hB
  clear s0 s1 s2 s3 s4 s5 zs t0 t1 t2 zt
  have hbk := KB.out.below (below3 (below3 (below3 B2.out B3.out (Nat.le_refl _)) B4.out (Nat.le_refl _)) B5.out (Nat.le_refl _)) KB.out.lt
  have s0 := hbk.cell 0
  have s1 := hbk.cell 1
  have s2 := hbk.cell 2
  have s3 := hbk.cell 3
  have s4 := hbk.cell 4
  have s5 := hbk.cell 5
  simp only [List.getElem?_toArray, List.getElem?_cons_zero, List.getElem?_cons_succ] at s0 s1 s2 s3 s4 s5
  have zs := hbk.lt
  clear hbk
  have hbk := CB.out.below (below3 (below3 B3.out B4.out (Nat.le_refl _)) B5.out (Nat.le_refl _)) CB.out.lt
  have t0 := hbk.cell 0
  have t1 := hbk.cell 1
  have t2 := hbk.cell 2
  simp only [List.getElem?_toArray, List.getElem?_cons_zero, List.getElem?_cons_succ] at t0 t1 t2
  have zt := hbk.lt
  clear hbk
  go_wp2_with fail
  refine (K2.out _ (below3 (below3 (below3 (below3 (below3 B0.out B1.out (Nat.le_refl _)) B2.out (Nat.le_refl _)) B3.out (Nat.le_refl _)) B4.out (Nat.le_refl _)) B5.out (Nat.le_refl _))).mono ?_
  rintro e w7 ⟨rfl, hB⟩
  have B6 : Hid (Below w6.heap.size w6 w7) := Lib.hid hB
  clear hB
  have HF := Lib.hid ((below3 (below3 (below3 (below3 (below3 (below3 B0.out B1.out (Nat.le_refl _)) B2.out (Nat.le_refl _)) B3.out (Nat.le_refl _)) B4.out (Nat.le_refl _)) B5.out (Nat.le_refl _)) B6.out (Nat.le_refl _)))
  go_wp2
  refine bodyPost_ret (v := .tuple #[.bool true, .int .i64 0]) (by simp [results, Try.results20, go_sem]) rfl ?_
  exact ⟨rfl, HF.out⟩
end Go.Proofs.Ytldbciflpnhfpaa
