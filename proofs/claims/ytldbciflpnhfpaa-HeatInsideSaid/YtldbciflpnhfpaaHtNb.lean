/- heat: checkClass, checkBox, Held, where all is valid. -/
import Derived.Test.YtldbciflpnhfpaaHtNa
import Derived.Laws.OwnMore

set_option linter.unusedSimpArgs false
set_option linter.unusedVariables false
namespace Go.Proofs.Ytldbciflpnhfpaa
open Go.RowKit

/-- A class whose numbers are allowed, and whose cases are in order. -/
structure ClIn (w : World) (n : Nat) (aA zA : Option Addr) (o1 p1 o2 p2 : Int) (La Lb : List Int) : Prop where
  ra : Rd w w.heap.size 1 encI aA n La
  rb : Rd w w.heap.size 1 encI zA n Lb
  ba : ∀ y ∈ La, 0 ≤ y ∧ y ≤ 10000000
  bb : ∀ y ∈ Lb, 0 ≤ y ∧ y ≤ 10000000
  o : (0 ≤ o1 ∧ o1 ≤ 1000000) ∧ 0 ≤ o2 ∧ o2 ≤ 1000000
  p : (0 ≤ p1 ∧ p1 ≤ 100000) ∧ 0 ≤ p2 ∧ p2 ≤ 100000
  l : leB La Lb = true
  oo : o1 ≤ o2
  pp : p2 ≤ p1
theorem ClIn.next {w w' : World} {n : Nat} {aA zA : Option Addr} {o1 p1 o2 p2 : Int} {La Lb : List Int} (h : ClIn w n aA zA o1 p1 o2 p2 La Lb) (hb : Below w.heap.size w w') : ClIn w' n aA zA o1 p1 o2 p2 La Lb := ⟨h.ra.next hb, h.rb.next hb, h.ba, h.bb, h.o, h.p, h.l, h.oo, h.pp⟩
theorem rd_two {α : Type} {f : α → List Value} {size : Nat} {w : World} {b : Nat} {T : TypeId} {cs : Array Value} (x y : α) (hf : ∀ z, (f z).length = size) (h : Blk w b T cs) (hc : cs.toList = f x ++ f y) : Rd w w.heap.size size f (some ⟨b, 0, none⟩) 2 [x, y] := by
  refine ⟨rfl, fun _ => ⟨b, 0, rfl, h.lt, fun i z hz j u hu => ?_⟩⟩
  have hj : j < size := by rw [← hf z]; exact (List.getElem?_eq_some_iff.1 hu).1
  rw [h.cell, ← Array.getElem?_toList, hc]
  match i, hz with
  | 0, hz =>
    simp only [List.getElem?_cons_zero, Option.some.injEq] at hz
    subst hz
    have e9 : 0 + 0 * size + j = j := by omega
    first | rw [e9] | skip
    rw [List.getElem?_append_left (by rw [hf]; exact hj)]
    exact hu
  | 1, hz =>
    simp only [List.getElem?_cons_succ, List.getElem?_cons_zero, Option.some.injEq] at hz
    subst hz
    have e9 : 0 + 1 * size + j = size + j := by omega
    first | rw [e9] | skip
    rw [List.getElem?_append_right (by rw [hf]; omega), hf, Nat.add_sub_cancel_left]
    exact hu
def ckcPhi (X0 : World) (bx kb : Nat) (hv c1 c2 : Value) (cs : Array Value) : Nat → Value → World → (Nat → Nat) → Prop
  | 0, v, _, _ => v = hv
  | 1, v, _, _ => v = .pointer (some ⟨kb, 0, none⟩)
  | 2, v, _, _ => v = c1
  | 3, v, _, _ => v = .pointer (some ⟨kb, 3, none⟩)
  | 4, v, _, _ => v = c2
  | 5, v, W, _ => ∃ b, v = .slice (some ⟨b, 0, none⟩) 2 2 ∧ Blk W b 35 cs
  | 6, v, _, _ => v = .slice none 0 0
  | 7, v, W, _ => ∃ b, v = .slice (some ⟨b, 0, none⟩) 2 2 ∧ Blk W b 35 cs
  | 8, v, _, _ => v = .int .i64 0
  | 9, v, _, _ => v = .int .i64 0
  | _, _, _, _ => True
theorem ckcPhi_next {X0 : World} {bx kb : Nat} {hv c1 c2 : Value} {cs : Array Value} {j : Nat} {v : Value} {W W' : World} {γ γ' : Nat → Nat} (hb : Below W.heap.size W W') (h : ckcPhi X0 bx kb hv c1 c2 cs j v W γ) : ckcPhi X0 bx kb hv c1 c2 cs j v W' γ' := by
  unfold ckcPhi at h ⊢
  split at h
  all_goals first | exact h | trivial | skip
  · obtain ⟨b, e, h1⟩ := h; exact ⟨b, e, h1.below hb h1.lt⟩
  · obtain ⟨b, e, h1⟩ := h; exact ⟨b, e, h1.below hb h1.lt⟩
theorem caseInfo : (Try.prog.info? 35).map (fun i => (i.zero, i.size, i.bytes)) = some (some (.agg #[.slice none 0 0, .int .i64 0, .int .i64 0]), 3, 40) := by kernel_rfl
set_option maxRecDepth 100000 in
set_option maxHeartbeats 1000000 in
theorem checkClass_yes (rA wA bA cA : Option Addr) (rn rc wn wc bn bc cn cc : Nat) (aA zA : Option Addr) (ac zc : Nat) (o1 p1 o2 p2 : Int) (La Lb : List Int) (h : Hl) (w : World) (hin : HlIn w w.heap.size ⟨rA, wA, bA, cA, rn, wn, bn, cn⟩ h) (ok : HlOk h) (hc : ClIn w rn aA zA o1 p1 o2 p2 La Lb) :
    Calls Try.prog 35 #[.agg #[.slice rA rn rc, .slice wA wn wc, .slice bA bn bc, .slice cA cn cc], .agg #[.slice aA rn ac, .int .i64 o1, .int .i64 p1, .slice zA rn zc, .int .i64 o2, .int .i64 p2], .slice none 0 0] w fun e w' => e = .returned (.int .i64 0) ∧ Below w.heap.size w w' := by
  have hn8 : rn ≤ 8 := by have h9 := hin.rm.1; dsimp only at h9; rw [← h9]; exact ok.n8
  have KC := Lib.hid (fun W (hW : Below w.heap.size w W) => Check_ok rA wA bA cA rn rc wn wc bn bc cn cc h W (hin.next hW) ok)
  have KN := Lib.hid (fun (kb : Nat) W (hW : Below w.heap.size w W) (hk : Blk W kb 35 #[.slice aA rn ac, .int .i64 o1, .int .i64 p1, .slice zA rn zc, .int .i64 o2, .int .i64 p2]) => checkNumbers_yes rA wA bA cA rn rc wn wc bn bc cn cc none (some ⟨kb, 0, none⟩) 0 0 2 2 [] [⟨aA, rn, ac, o1, p1⟩, ⟨zA, rn, zc, o2, p2⟩] W (by omega) (by omega) (by omega) (Rd.nil _ _ _ _) (rd_two (f := Cs.enc) _ _ (fun _ => rfl) hk rfl) (fun x hx => by simp at hx) (fun x hx => by
    simp only [List.mem_cons, List.mem_nil_iff, or_false] at hx
    rcases hx with rfl | rfl
    · exact ⟨rfl, ⟨hc.o.1, hc.p.1⟩, La, hc.ra.next hW, hc.ba⟩
    · exact ⟨rfl, ⟨hc.o.2, hc.p.2⟩, Lb, hc.rb.next hW, hc.bb⟩))
  have KA := Lib.hid (fun W (hW : Below w.heap.size w W) => notAbove_any aA zA rn ac zc La Lb o1 p1 o2 p2 W (by omega) (hc.ra.next hW) (hc.rb.next hW))
  rw [hc.l, decide_eq_true hc.oo, decide_eq_true hc.pp] at KA
  obtain ⟨iC, x0, x1, x2, x3⟩ := info_parts caseInfo
  have hCI := Lib.hid x0
  have g1 : w.heap.size < w.heap.size + 1 := by omega
  have g2 : w.heap.size < w.heap.size + 1 + 1 := by omega
  clear hin ok hc hn8 x0 x1 x2 x3
  go_enter Try.func35, Try.ntmps35
  go_wp2_with fail
  obtain ⟨bx, hbx⟩ : ∃ z, z = w.heap.size := ⟨_, rfl⟩
  obtain ⟨w1, hw1⟩ : ∃ z, z = w.alloc (.cells #[.slice rA rn rc, .slice wA wn wc, .slice bA bn bc, .slice cA cn cc] 28) := ⟨_, rfl⟩
  have BX : Hid (Blk w1 bx 28 #[.slice rA rn rc, .slice wA wn wc, .slice bA bn bc, .slice cA cn cc]) := Lib.hid (by rw [hw1, hbx]; exact heap_alloc_new w _)
  have Sw1 : Hid (w1.heap.size = bx + 1) := Lib.hid (by rw [hw1, hbx, World.size_alloc])
  have Zbx : Hid (w.heap.size ≤ bx) := Lib.hid (by rw [hbx]; exact Nat.le_refl _)
  have hBn : Below w.heap.size w w1 := by rw [hw1]; exact (Below.refl _ _).alloc (Nat.le_refl _) _
  rw [← hw1, ← hbx]
  have B0 : Hid (Below w.heap.size w w1) := Lib.hid hBn
  clear hw1 hbx hBn
  obtain ⟨kb, hkb⟩ : ∃ z, z = bx + 1 := ⟨_, rfl⟩
  obtain ⟨w2, hw2⟩ : ∃ z, z = w1.alloc (.cells #[.slice aA rn ac, .int .i64 o1, .int .i64 p1, .slice zA rn zc, .int .i64 o2, .int .i64 p2] 37) := ⟨_, rfl⟩
  have KB : Hid (Blk w2 kb 37 #[.slice aA rn ac, .int .i64 o1, .int .i64 p1, .slice zA rn zc, .int .i64 o2, .int .i64 p2]) := Lib.hid (by have e2 := heap_alloc_new w1 (.cells #[.slice aA rn ac, .int .i64 o1, .int .i64 p1, .slice zA rn zc, .int .i64 o2, .int .i64 p2] 37); rw [Sw1.out] at e2; rw [hw2, hkb]; exact e2)
  have Sw2 : Hid (w2.heap.size = kb + 1) := Lib.hid (by rw [hw2, hkb, World.size_alloc, Sw1.out])
  have Zkb : Hid (w1.heap.size = kb) := Lib.hid (by rw [Sw1.out, hkb])
  have hBn : Below w1.heap.size w1 w2 := by rw [hw2]; exact (Below.refl _ _).alloc (Nat.le_refl _) _
  rw [← hw2, ← hkb]
  have B1 : Hid (Below w1.heap.size w1 w2) := Lib.hid hBn
  clear hw2 hkb hBn
  refine (KC.out _ (below3 B0.out B1.out (Nat.le_refl _))).mono ?_
  rintro e w3 ⟨rfl, hB⟩
  have B2 : Hid (Below w2.heap.size w2 w3) := Lib.hid hB
  clear hB
  clear g1 g2
  go_wp2_with fail
  have HBX := Lib.hid (BX.out.below (below3 B1.out B2.out (Nat.le_refl _)) BX.out.lt)
  have HKB := Lib.hid (KB.out.below B2.out KB.out.lt)
  have HLW := Lib.hid (below3 (below3 B0.out B1.out (Nat.le_refl _)) B2.out (Nat.le_refl _))
  refine wp_region_free10 9 (by kernel_rfl) [some 14, some 15, some 16, some 17, some 18, some 19, some 20, some 21, some 22, some 8] [[], [], [1], [], [3], [2, 4], [], [5, 6], [0, 7, 7], [8, 8, 0, 1, 2, 3, 4, 5, 6, 7, 8]] [(3, .pointer (some ⟨bx, 0, none⟩)), (4, .pointer (some ⟨kb, 0, none⟩)), (2, .slice none 0 0)] (fun W _ => Below w3.heap.size w3 W) (ckcPhi w3 bx kb (.agg #[.slice rA rn rc, .slice wA wn wc, .slice bA bn bc, .slice cA cn cc]) (.agg #[.slice aA rn ac, .int .i64 o1, .int .i64 p1]) (.agg #[.slice zA rn zc, .int .i64 o2, .int .i64 p2]) #[.slice aA rn ac, .int .i64 o1, .int .i64 p1, .slice zA rn zc, .int .i64 o2, .int .i64 p2]) (fun _ _ _ => True) (by kernel_rfl) (by kernel_rfl) rfl (by kernel_rfl) ?_ ?_ ⟨fun _ => 0, (Below.refl _ _).drew, fun i _ => trivial⟩ ?_ ?_
  · intro z hz
    simp only [List.mem_cons, List.mem_nil_iff, or_false] at hz
    rcases hz with rfl | rfl | rfl
    all_goals exact ⟨by kernel_rfl, rfl⟩
  · intro i v W γ hi h
    rcases i with _ | _ | _ | _ | _ | _ | _ | _ | _ | _ | i
    all_goals first | exact h | (simp at hi)
  · refine ⟨?_, ?_, ?_, ?_, ?_, ?_, ?_, ?_, ?_, ?_, trivial⟩
    all_goals
      intro a9 W γ ev hcc hff hfx hR hψ hpre
      simp only [List.mem_cons, List.mem_nil_iff, or_false, forall_eq, forall_eq_or_imp] at hfx
      obtain ⟨f0, f1, f2⟩ := hfx
      have HR := Lib.hid hR
      clear hR
    · refine ⟨fun hg K hK => ?_, trivial⟩
      clear hg
      have hbk := HBX.out.below HR.out HBX.out.lt
      have hzg := hbk.lt
      have e0 := hbk.cell 0
      have e1 := hbk.cell 1
      have e2 := hbk.cell 2
      have e3 := hbk.cell 3
      simp only [List.getElem?_toArray, List.getElem?_cons_zero, List.getElem?_cons_succ] at e0 e1 e2 e3
      clear hbk
      clear hpre hψ
      go_simp
      exact hK _ _ γ HR.out (fun _ _ _ _ h => h) (fun _ _ _ h => h) rfl
    · refine ⟨fun hg K hK => ?_, trivial⟩
      clear hg
      clear hpre hψ
      go_simp
      exact hK _ _ γ HR.out (fun _ _ _ _ h => h) (fun _ _ _ h => h) rfl
    · refine ⟨fun hg K hK => ?_, trivial⟩
      clear hg
      have q0 : ev (.tmp 15) = _ := hpre 1 (by decide)
      have hbk := HKB.out.below HR.out HKB.out.lt
      have hzg := hbk.lt
      have e0 := hbk.cell 0
      have e1 := hbk.cell 1
      have e2 := hbk.cell 2
      simp only [List.getElem?_toArray, List.getElem?_cons_zero, List.getElem?_cons_succ] at e0 e1 e2
      clear hbk
      clear hpre hψ
      go_simp
      exact hK _ _ γ HR.out (fun _ _ _ _ h => h) (fun _ _ _ h => h) rfl
    · refine ⟨fun hg K hK => ?_, trivial⟩
      clear hg
      clear hpre hψ
      go_simp
      exact hK _ _ γ HR.out (fun _ _ _ _ h => h) (fun _ _ _ h => h) rfl
    · refine ⟨fun hg K hK => ?_, trivial⟩
      clear hg
      have q0 : ev (.tmp 17) = _ := hpre 3 (by decide)
      have hbk := HKB.out.below HR.out HKB.out.lt
      have hzg := hbk.lt
      have e3 := hbk.cell 3
      have e4 := hbk.cell 4
      have e5 := hbk.cell 5
      simp only [List.getElem?_toArray, List.getElem?_cons_zero, List.getElem?_cons_succ] at e3 e4 e5
      clear hbk
      clear hpre hψ
      go_simp
      exact hK _ _ γ HR.out (fun _ _ _ _ h => h) (fun _ _ _ h => h) rfl
    · refine ⟨fun hg K hK => ?_, trivial⟩
      clear hg
      have q0 : ev (.tmp 16) = _ := hpre 2 (by decide)
      have q1 : ev (.tmp 18) = _ := hpre 4 (by decide)
      have HRW9 := HR
      clear hpre hψ
      go_simp
      have hB5 : Below W.heap.size W (W.alloc (.cells #[.slice aA rn ac, .int .i64 o1, .int .i64 p1, .slice zA rn zc, .int .i64 o2, .int .i64 p2] 35)) := (Below.refl _ _).alloc (Nat.le_refl _) _
      exact hK _ _ γ (below3 HRW9.out hB5 (Nat.le_refl _)) (fun j u _ _ h => ckcPhi_next hB5 h) (fun _ _ _ h => h) ⟨W.heap.size, rfl, heap_alloc_new W _⟩
    · refine ⟨fun hg K hK => ?_, trivial⟩
      clear hg
      clear hpre hψ
      go_simp
      exact hK _ _ γ HR.out (fun _ _ _ _ h => h) (fun _ _ _ h => h) rfl
    · refine ⟨fun hg K hK => ?_, trivial⟩
      clear hg
      have q0 : ev (.tmp 20) = _ := hpre 6 (by decide)
      obtain ⟨b1, q5, hb1⟩ := hpre 5 (by decide)
      replace q5 : ev (.tmp 19) = _ := q5
      have hr := run_append_owned_none (P := Try.prog) (w := W) b1 49 49 35 iC 3 Try.underlying49 hCI.out (.slice (some ⟨b1, 0, none⟩) 2 2) 2 [.slice aA rn ac, .int .i64 o1, .int .i64 p1, .slice zA rn zc, .int .i64 o2, .int .i64 p2] ⟨rfl, .inr ⟨b1, 2, #[.slice aA rn ac, .int .i64 o1, .int .i64 p1, .slice zA rn zc, .int .i64 o2, .int .i64 p2], rfl, Nat.le_refl _, hb1, by omega, by simp only [maxLen]; omega, rfl, rfl⟩⟩
      unfold execOp
      simp only [resolve, invoke, builtin, Sem.run_bind, Sem.run_pure, Result.andThen_ok, List.map_toArray, List.map_cons, List.map_nil, q0, q5, hr]
      exact hK _ _ γ HR.out (fun _ _ _ _ h => h) (fun _ _ _ h => h) ⟨b1, rfl, hb1⟩
    · refine ⟨fun hg K hK => ?_, trivial⟩
      clear hg
      have q0 : ev (.tmp 14) = _ := hpre 0 (by decide)
      obtain ⟨b1, q5, hb1⟩ := hpre 7 (by decide)
      replace q5 : ev (.tmp 21) = _ := q5
      have C := Lib.hid (KN.out b1 W (below3 HLW.out HR.out (Nat.le_refl _)) hb1)
      have HX := Lib.hid HR.out
      clear hpre hψ hb1
      go_simp
      refine C.out.mono ?_
      rintro e w7 ⟨rfl, hB9⟩
      exact hK _ w7 γ (below3 HX.out hB9 (Nat.le_refl _)) (fun j u hj hne h => ckcPhi_next hB9 h) (fun _ _ _ h => h) rfl
    · refine ⟨fun hg K hK => ?_, trivial⟩
      clear hg
      have q0 : ev (.tmp 22) = _ := hpre 8 (by decide)
      clear hpre hψ
      go_simp
      exact hK _ _ γ HR.out (fun _ _ _ _ h => h) (fun _ _ _ h => h) rfl
  · intro vs w4 γ hvl hR hφ
    have q9 := hφ 9 (by decide)
    have HR := Lib.hid hR
    clear hφ hR
    match vs, hvl with
    | [y0, y1, y2, y3, y4, y5, y6, y7, y8, y9], _ =>
    simp only [List.getD_cons_zero, List.getD_cons_succ] at q9
    replace q9 : y9 = .int .i64 0 := q9
    have B3 : Hid (Below w3.heap.size w3 w4) := Lib.hid HR.out
    clear HR
    simp [putAll, q9]
    clear q9
    have hbk := KB.out.below (below3 B2.out B3.out (Nat.le_refl _)) KB.out.lt
    have s0 := hbk.cell 0
    have s1 := hbk.cell 1
    have s2 := hbk.cell 2
    have s3 := hbk.cell 3
    have s4 := hbk.cell 4
    have s5 := hbk.cell 5
    simp only [List.getElem?_toArray, List.getElem?_cons_zero, List.getElem?_cons_succ] at s0 s1 s2 s3 s4 s5
    have zs := hbk.lt
    clear hbk
    go_wp2_with fail
    refine (KA.out _ (below3 (below3 (below3 B0.out B1.out (Nat.le_refl _)) B2.out (Nat.le_refl _)) B3.out (Nat.le_refl _))).mono ?_
    rintro e w5 ⟨rfl, hB⟩
    have B4 : Hid (Below w4.heap.size w4 w5) := Lib.hid hB
    clear hB
    have HF := Lib.hid ((below3 (below3 (below3 (below3 B0.out B1.out (Nat.le_refl _)) B2.out (Nat.le_refl _)) B3.out (Nat.le_refl _)) B4.out (Nat.le_refl _)))
    go_wp2
    go_ret
    exact ⟨rfl, HF.out⟩
set_option maxRecDepth 100000 in
set_option maxHeartbeats 1000000 in
theorem checkBox_yes (rA wA bA cA : Option Addr) (rn rc wn wc bn bc cn cc : Nat) (aA zA lA hA : Option Addr) (ac zc lc hc : Nat) (o1 p1 o2 p2 : Int) (La Lb tl th : List Int) (h : Hl) (w : World) (hin : HlIn w w.heap.size ⟨rA, wA, bA, cA, rn, wn, bn, cn⟩ h) (ok : HlOk h) (hcl : ClIn w rn aA zA o1 p1 o2 p2 La Lb) (rl : Rd w w.heap.size 1 encI lA rn tl) (rh : Rd w w.heap.size 1 encI hA rn th) (bl : ∀ y ∈ tl, 0 ≤ y ∧ y ≤ 1000000) (bh : ∀ y ∈ th, 0 ≤ y ∧ y ≤ 1000000) (hlh : leB tl th = true) :
    Calls Try.prog 42 #[.agg #[.slice rA rn rc, .slice wA wn wc, .slice bA bn bc, .slice cA cn cc], .slice lA rn lc, .slice hA rn hc, .agg #[.slice aA rn ac, .int .i64 o1, .int .i64 p1, .slice zA rn zc, .int .i64 o2, .int .i64 p2]] w fun e w' => e = .returned (.int .i64 0) ∧ Below w.heap.size w w' := by
  have hn8 : rn ≤ 8 := by have h9 := hin.rm.1; dsimp only at h9; rw [← h9]; exact ok.n8
  have KC := Lib.hid (fun W (hW : Below w.heap.size w W) => checkClass_yes rA wA bA cA rn rc wn wc bn bc cn cc aA zA ac zc o1 p1 o2 p2 La Lb h W (hin.next hW) ok (hcl.next hW))
  have KN := Lib.hid (fun (ab : Nat) W (hW : Below w.heap.size w W) (hk : Blk W ab 30 #[.slice lA rn lc, .slice hA rn hc]) => checkNumbers_yes rA wA bA cA rn rc wn wc bn bc cn cc (some ⟨ab, 0, none⟩) none 2 2 0 0 [⟨lA, rn, lc⟩, ⟨hA, rn, hc⟩] [] W (by omega) (by omega) (by omega) (rd_two (f := Ls.enc) _ _ (fun _ => rfl) hk rfl) (Rd.nil _ _ _ _) (fun x hx => by
    simp only [List.mem_cons, List.mem_nil_iff, or_false] at hx
    rcases hx with rfl | rfl
    · exact ⟨rfl, tl, rl.next hW, bl⟩
    · exact ⟨rfl, th, rh.next hW, bh⟩) (fun x hx => by simp at hx))
  have KA := Lib.hid (fun W (hW : Below w.heap.size w W) => noneAbove_any lA hA rn lc hc tl th W (by omega) (rl.next hW) (rh.next hW))
  rw [hlh] at KA
  have g1 : w.heap.size < w.heap.size + 1 := by omega
  have g2 : w.heap.size < w.heap.size + 1 + 1 := by omega
  clear hin ok hcl hn8 rl rh bl bh hlh
  go_enter Try.func42, Try.ntmps42
  go_wp2_with fail
  obtain ⟨bx, hbx⟩ : ∃ z, z = w.heap.size := ⟨_, rfl⟩
  obtain ⟨w1, hw1⟩ : ∃ z, z = w.alloc (.cells #[.slice rA rn rc, .slice wA wn wc, .slice bA bn bc, .slice cA cn cc] 28) := ⟨_, rfl⟩
  have BX : Hid (Blk w1 bx 28 #[.slice rA rn rc, .slice wA wn wc, .slice bA bn bc, .slice cA cn cc]) := Lib.hid (by rw [hw1, hbx]; exact heap_alloc_new w _)
  have Sw1 : Hid (w1.heap.size = bx + 1) := Lib.hid (by rw [hw1, hbx, World.size_alloc])
  have Zbx : Hid (w.heap.size ≤ bx) := Lib.hid (by rw [hbx]; exact Nat.le_refl _)
  have hBn : Below w.heap.size w w1 := by rw [hw1]; exact (Below.refl _ _).alloc (Nat.le_refl _) _
  rw [← hw1, ← hbx]
  have B0 : Hid (Below w.heap.size w w1) := Lib.hid hBn
  clear hw1 hbx hBn
  obtain ⟨kb, hkb⟩ : ∃ z, z = bx + 1 := ⟨_, rfl⟩
  obtain ⟨w2, hw2⟩ : ∃ z, z = w1.alloc (.cells #[.slice aA rn ac, .int .i64 o1, .int .i64 p1, .slice zA rn zc, .int .i64 o2, .int .i64 p2] 37) := ⟨_, rfl⟩
  have KB : Hid (Blk w2 kb 37 #[.slice aA rn ac, .int .i64 o1, .int .i64 p1, .slice zA rn zc, .int .i64 o2, .int .i64 p2]) := Lib.hid (by have e2 := heap_alloc_new w1 (.cells #[.slice aA rn ac, .int .i64 o1, .int .i64 p1, .slice zA rn zc, .int .i64 o2, .int .i64 p2] 37); rw [Sw1.out] at e2; rw [hw2, hkb]; exact e2)
  have Sw2 : Hid (w2.heap.size = kb + 1) := Lib.hid (by rw [hw2, hkb, World.size_alloc, Sw1.out])
  have Zkb : Hid (w1.heap.size = kb) := Lib.hid (by rw [Sw1.out, hkb])
  have hBn : Below w1.heap.size w1 w2 := by rw [hw2]; exact (Below.refl _ _).alloc (Nat.le_refl _) _
  rw [← hw2, ← hkb]
  have B1 : Hid (Below w1.heap.size w1 w2) := Lib.hid hBn
  clear hw2 hkb hBn
  refine (KC.out _ (below3 B0.out B1.out (Nat.le_refl _))).mono ?_
  rintro e w3 ⟨rfl, hB⟩
  have B2 : Hid (Below w2.heap.size w2 w3) := Lib.hid hB
  clear hB
  clear g1 g2
  have hbk := BX.out.below (below3 B1.out B2.out (Nat.le_refl _)) BX.out.lt
  have s0 := hbk.cell 0
  have s1 := hbk.cell 1
  have s2 := hbk.cell 2
  have s3 := hbk.cell 3
  simp only [List.getElem?_toArray, List.getElem?_cons_zero, List.getElem?_cons_succ] at s0 s1 s2 s3
  have zs := hbk.lt
  clear hbk
  have g1 : w3.heap.size < w3.heap.size + 1 := by omega
  go_wp2_with fail
  obtain ⟨ab, hab⟩ : ∃ z, z = w3.heap.size := ⟨_, rfl⟩
  obtain ⟨w4, hw4⟩ : ∃ z, z = w3.alloc (.cells #[.slice lA rn lc, .slice hA rn hc] 30) := ⟨_, rfl⟩
  have AB : Hid (Blk w4 ab 30 #[.slice lA rn lc, .slice hA rn hc]) := Lib.hid (by rw [hw4, hab]; exact heap_alloc_new w3 _)
  have Sw4 : Hid (w4.heap.size = ab + 1) := Lib.hid (by rw [hw4, hab, World.size_alloc])
  have Zab : Hid (w3.heap.size ≤ ab) := Lib.hid (by rw [hab]; exact Nat.le_refl _)
  have hBn : Below w3.heap.size w3 w4 := by rw [hw4]; exact (Below.refl _ _).alloc (Nat.le_refl _) _
  rw [← hw4, ← hab]
  have B3 : Hid (Below w3.heap.size w3 w4) := Lib.hid hBn
  clear hw4 hab hBn
  refine (KN.out ab _ (below3 (below3 (below3 B0.out B1.out (Nat.le_refl _)) B2.out (Nat.le_refl _)) B3.out (Nat.le_refl _)) AB.out).mono ?_
  rintro e w5 ⟨rfl, hB⟩
  have B4 : Hid (Below w4.heap.size w4 w5) := Lib.hid hB
  clear hB
  clear g1 s0 s1 s2 s3 zs
  go_wp2_with fail
  refine (KA.out _ (below3 (below3 (below3 (below3 B0.out B1.out (Nat.le_refl _)) B2.out (Nat.le_refl _)) B3.out (Nat.le_refl _)) B4.out (Nat.le_refl _))).mono ?_
  rintro e w6 ⟨rfl, hB⟩
  have B5 : Hid (Below w5.heap.size w5 w6) := Lib.hid hB
  clear hB
  have HF := Lib.hid ((below3 (below3 (below3 (below3 (below3 B0.out B1.out (Nat.le_refl _)) B2.out (Nat.le_refl _)) B3.out (Nat.le_refl _)) B4.out (Nat.le_refl _)) B5.out (Nat.le_refl _)))
  go_wp2
  go_ret
  exact ⟨rfl, HF.out⟩
set_option maxRecDepth 100000 in
set_option maxHeartbeats 1000000 in
theorem Held_any (rA wA bA cA : Option Addr) (rn rc wn wc bn bc cn cc : Nat) (aA zA lA hA : Option Addr) (ac zc lc hc : Nat) (o1 p1 o2 p2 : Int) (La Lb tl th : List Int) (h : Hl) (w : World) (hin : HlIn w w.heap.size ⟨rA, wA, bA, cA, rn, wn, bn, cn⟩ h) (ok : HlOk h) (hcl : ClIn w rn aA zA o1 p1 o2 p2 La Lb) (rl : Rd w w.heap.size 1 encI lA rn tl) (rh : Rd w w.heap.size 1 encI hA rn th) (bl : ∀ y ∈ tl, 0 ≤ y ∧ y ≤ 1000000) (bh : ∀ y ∈ th, 0 ≤ y ∧ y ≤ 1000000) (hlh : leB tl th = true) :
    Calls Try.prog 26 #[.agg #[.slice rA rn rc, .slice wA wn wc, .slice bA bn bc, .slice cA cn cc], .slice lA rn lc, .slice hA rn hc, .agg #[.slice aA rn ac, .int .i64 o1, .int .i64 p1, .slice zA rn zc, .int .i64 o2, .int .i64 p2]] w fun e w' => e = .returned (.tuple #[.bool (leB tl (nxL h tl La o1 p1) && leB (nxL h th Lb o2 p2) th), .int .i64 0]) ∧ Below w.heap.size w w' := by
  have hrn : h.rooms.length = rn := hin.rm.1
  have hn8 : rn ≤ 8 := by rw [← hrn]; exact ok.n8
  have KC := Lib.hid (fun W (hW : Below w.heap.size w W) => checkBox_yes rA wA bA cA rn rc wn wc bn bc cn cc aA zA lA hA ac zc lc hc o1 p1 o2 p2 La Lb tl th h W (hin.next hW) ok (hcl.next hW) (rl.next hW) (rh.next hW) bl bh hlh)
  have K1 := Lib.hid (fun W (hW : Below w.heap.size w W) => nextS_any rA wA bA cA aA lA rn rc wn wc bn bc cn cc ac lc o1 p1 h tl La W (hin.next hW) ok hcl.o.1 hcl.p.1 (rl.next hW) bl (hcl.ra.next hW) hcl.ba)
  have K2 := Lib.hid (fun W (hW : Below w.heap.size w W) => nextS_any rA wA bA cA zA hA rn rc wn wc bn bc cn cc zc hc o2 p2 h th Lb W (hin.next hW) ok hcl.o.2 hcl.p.2 (rh.next hW) bh (hcl.rb.next hW) hcl.bb)
  have HL : Hid ((nxL h tl La o1 p1).length = rn ∧ (nxL h th Lb o2 p2).length = rn) := Lib.hid ⟨by rw [nxL_len]; exact hrn, by rw [nxL_len]; exact hrn⟩
  have N1 := Lib.hid (fun xb W (hW : Below w.heap.size w W) (hx : Blk W xb 3 (intsA (nxL h tl La o1 p1))) => noneAbove_any lA (some ⟨xb, 0, none⟩) rn lc rn tl (nxL h tl La o1 p1) W (by omega) (rl.next hW) (by have h9 := Blk.rdI hx; rw [HL.out.1] at h9; exact h9))
  have N2 := Lib.hid (fun xb W (hW : Below w.heap.size w W) (hx : Blk W xb 3 (intsA (nxL h th Lb o2 p2))) => noneAbove_any (some ⟨xb, 0, none⟩) hA rn rn hc (nxL h th Lb o2 p2) th W (by omega) (by have h9 := Blk.rdI hx; rw [HL.out.2] at h9; exact h9) (rh.next hW))
  have g1 : w.heap.size < w.heap.size + 1 := by omega
  have g2 : w.heap.size < w.heap.size + 1 + 1 := by omega
  obtain ⟨r1, hr1⟩ : ∃ z, z = leB tl (nxL h tl La o1 p1) := ⟨_, rfl⟩
  obtain ⟨r2, hr2⟩ : ∃ z, z = leB (nxL h th Lb o2 p2) th := ⟨_, rfl⟩
  rw [← hr1] at N1 ⊢
  rw [← hr2] at N2 ⊢
  clear hin ok hcl hn8 rl rh bl bh hlh hrn hr1 hr2
  go_enter Try.func26, Try.ntmps26
  go_wp2_with fail
  obtain ⟨bx, hbx⟩ : ∃ z, z = w.heap.size := ⟨_, rfl⟩
  obtain ⟨w1, hw1⟩ : ∃ z, z = w.alloc (.cells #[.slice rA rn rc, .slice wA wn wc, .slice bA bn bc, .slice cA cn cc] 28) := ⟨_, rfl⟩
  have BX : Hid (Blk w1 bx 28 #[.slice rA rn rc, .slice wA wn wc, .slice bA bn bc, .slice cA cn cc]) := Lib.hid (by rw [hw1, hbx]; exact heap_alloc_new w _)
  have Sw1 : Hid (w1.heap.size = bx + 1) := Lib.hid (by rw [hw1, hbx, World.size_alloc])
  have Zbx : Hid (w.heap.size ≤ bx) := Lib.hid (by rw [hbx]; exact Nat.le_refl _)
  have hBn : Below w.heap.size w w1 := by rw [hw1]; exact (Below.refl _ _).alloc (Nat.le_refl _) _
  rw [← hw1, ← hbx]
  have B0 : Hid (Below w.heap.size w w1) := Lib.hid hBn
  clear hw1 hbx hBn
  obtain ⟨kb, hkb⟩ : ∃ z, z = bx + 1 := ⟨_, rfl⟩
  obtain ⟨w2, hw2⟩ : ∃ z, z = w1.alloc (.cells #[.slice aA rn ac, .int .i64 o1, .int .i64 p1, .slice zA rn zc, .int .i64 o2, .int .i64 p2] 37) := ⟨_, rfl⟩
  have KB : Hid (Blk w2 kb 37 #[.slice aA rn ac, .int .i64 o1, .int .i64 p1, .slice zA rn zc, .int .i64 o2, .int .i64 p2]) := Lib.hid (by have e2 := heap_alloc_new w1 (.cells #[.slice aA rn ac, .int .i64 o1, .int .i64 p1, .slice zA rn zc, .int .i64 o2, .int .i64 p2] 37); rw [Sw1.out] at e2; rw [hw2, hkb]; exact e2)
  have Sw2 : Hid (w2.heap.size = kb + 1) := Lib.hid (by rw [hw2, hkb, World.size_alloc, Sw1.out])
  have Zkb : Hid (w1.heap.size = kb) := Lib.hid (by rw [Sw1.out, hkb])
  have hBn : Below w1.heap.size w1 w2 := by rw [hw2]; exact (Below.refl _ _).alloc (Nat.le_refl _) _
  rw [← hw2, ← hkb]
  have B1 : Hid (Below w1.heap.size w1 w2) := Lib.hid hBn
  clear hw2 hkb hBn
  refine (KC.out _ (below3 B0.out B1.out (Nat.le_refl _))).mono ?_
  rintro e w3 ⟨rfl, hB⟩
  have B2 : Hid (Below w2.heap.size w2 w3) := Lib.hid hB
  clear hB
  clear g1 g2
  have hbk := BX.out.below (below3 B1.out B2.out (Nat.le_refl _)) BX.out.lt
  have s0 := hbk.cell 0
  have s1 := hbk.cell 1
  have s2 := hbk.cell 2
  have s3 := hbk.cell 3
  simp only [List.getElem?_toArray, List.getElem?_cons_zero, List.getElem?_cons_succ] at s0 s1 s2 s3
  have zs := hbk.lt
  clear hbk
  have hbk := KB.out.below B2.out KB.out.lt
  have t0 := hbk.cell 0
  have t1 := hbk.cell 1
  have t2 := hbk.cell 2
  simp only [List.getElem?_toArray, List.getElem?_cons_zero, List.getElem?_cons_succ] at t0 t1 t2
  have zt := hbk.lt
  clear hbk
  go_wp2_with fail
  refine (K1.out _ (below3 (below3 B0.out B1.out (Nat.le_refl _)) B2.out (Nat.le_refl _))).mono ?_
  rintro e w4 ⟨xb, rfl, hx, _, hB⟩
  have B3 : Hid (Below w3.heap.size w3 w4) := Lib.hid hB
  clear hB
  have XB := Lib.hid hx
  clear hx s0 s1 s2 s3 zs t0 t1 t2 zt
  go_wp2_with fail
  refine (N1.out xb _ (below3 (below3 (below3 B0.out B1.out (Nat.le_refl _)) B2.out (Nat.le_refl _)) B3.out (Nat.le_refl _)) XB.out).mono ?_
  rintro e w5 ⟨rfl, hB⟩
  have B4 : Hid (Below w4.heap.size w4 w5) := Lib.hid hB
  clear hB
  cases r1
  · have HF := Lib.hid ((below3 (below3 (below3 (below3 B0.out B1.out (Nat.le_refl _)) B2.out (Nat.le_refl _)) B3.out (Nat.le_refl _)) B4.out (Nat.le_refl _)))
    go_wp2
    refine bodyPost_ret (v := .tuple #[.bool false, .int .i64 0]) (by simp [results, Try.results26, go_sem]) rfl ?_
    exact ⟨by simp, HF.out⟩
  have hbk := BX.out.below (below3 (below3 (below3 B1.out B2.out (Nat.le_refl _)) B3.out (Nat.le_refl _)) B4.out (Nat.le_refl _)) BX.out.lt
  have s0 := hbk.cell 0
  have s1 := hbk.cell 1
  have s2 := hbk.cell 2
  have s3 := hbk.cell 3
  simp only [List.getElem?_toArray, List.getElem?_cons_zero, List.getElem?_cons_succ] at s0 s1 s2 s3
  have zs := hbk.lt
  clear hbk
  have hbk := KB.out.below (below3 (below3 B2.out B3.out (Nat.le_refl _)) B4.out (Nat.le_refl _)) KB.out.lt
  have t3 := hbk.cell 3
  have t4 := hbk.cell 4
  have t5 := hbk.cell 5
  simp only [List.getElem?_toArray, List.getElem?_cons_zero, List.getElem?_cons_succ] at t3 t4 t5
  have zt := hbk.lt
  clear hbk
  go_wp2_with fail
  refine (K2.out _ (below3 (below3 (below3 (below3 B0.out B1.out (Nat.le_refl _)) B2.out (Nat.le_refl _)) B3.out (Nat.le_refl _)) B4.out (Nat.le_refl _))).mono ?_
  rintro e w6 ⟨yb, rfl, hx, _, hB⟩
  have B5 : Hid (Below w5.heap.size w5 w6) := Lib.hid hB
  clear hB
  have YB := Lib.hid hx
  clear hx s0 s1 s2 s3 zs t3 t4 t5 zt
  go_wp2_with fail
  refine (N2.out yb _ (below3 (below3 (below3 (below3 (below3 B0.out B1.out (Nat.le_refl _)) B2.out (Nat.le_refl _)) B3.out (Nat.le_refl _)) B4.out (Nat.le_refl _)) B5.out (Nat.le_refl _)) YB.out).mono ?_
  rintro e w7 ⟨rfl, hB⟩
  have B6 : Hid (Below w6.heap.size w6 w7) := Lib.hid hB
  clear hB
  have HF := Lib.hid ((below3 (below3 (below3 (below3 (below3 (below3 B0.out B1.out (Nat.le_refl _)) B2.out (Nat.le_refl _)) B3.out (Nat.le_refl _)) B4.out (Nat.le_refl _)) B5.out (Nat.le_refl _)) B6.out (Nat.le_refl _)))
  go_wp2
  refine bodyPost_ret (v := .tuple #[.bool r2, .int .i64 0]) (by simp [results, Try.results26, go_sem]) rfl ?_
  exact ⟨by simp, HF.out⟩
end Go.Proofs.Ytldbciflpnhfpaa
