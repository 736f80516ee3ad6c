/- slices.Values over cases. -/
import Derived.Test.YtldbciflpnhfpaaHtIc

set_option linter.unusedSimpArgs false
set_option linter.unusedVariables false
namespace Go.Proofs.Ytldbciflpnhfpaa
open Go.RowKit Go.Shelf
attribute [local go_sem] Oper.semAt_some

set_option maxRecDepth 100000 in
set_option maxHeartbeats 4000000 in
theorem values_y (n : Nat) (hn : 1 ≤ n) (sB cn cc B0 : Nat) (A : Option Addr) (cl : List Cz) (Sg : Nat → Obj → Prop) (w : World) (hb : Blk w sB 49 #[.slice A cn cc]) (hr : Rd w B0 3 Cs.enc A cn (cl.map Prod.fst)) (hcn : cn ≤ 100000) (hB0 : B0 ≤ w.heap.size) (hS : ∀ b o, b < B0 → Sg b o) :
    SeqY Fence.wide n Try.prog 69 #[.pointer (some ⟨sB, 0, none⟩)] encCz (KpO Sg) (XCs cl) (fun xs => xs = cl) 0 w := by
  intro l J Jx W hW hWz hJ hJx hY h0
  have c0 := (hb.below hW hb.lt).cell 0
  have z0 := (hb.below hW hb.lt).lt
  simp only [List.getElem?_toArray, List.getElem?_cons_zero] at c0
  have HR := Lib.hid (hr.below (hW.mono hB0))
  have HLN : Hid (cl.length = cn) := Lib.hid (by have h9 := hr.1; simpa using h9)
  have hWs : w.heap.size ≤ W.heap.size := hW.size
  clear hb hr hW hWz
  refine callsIn_of_wp Try.func69 rfl trivial ?_ rfl
  simp only [Try.ntmps69, List.size_toArray, List.length_cons, List.length_nil, Nat.reduceAdd, Nat.reduceSub, Array.replicate_succ, Array.replicate_zero, List.push_toArray, List.append_toArray, List.nil_append, List.cons_append]
  gi_wp2
  clear c0 z0
  gi_loopw [7] (fun i wr => ∃ k : Nat, k ≤ cn ∧ i = .int .i64 k ∧ J (cl.take k) wr ∧ KpO Sg W wr) (fun i _ => cn - (intOf i).toNat)
  case atStart => exact ⟨0, Nat.zero_le _, rfl, h0, KpO.refl _ _⟩
  case round =>
    obtain ⟨k, hk, rfl, hJs, hK⟩ := hrel
    by_cases hlt : k < cn
    · obtain ⟨b1, o1, c, e1, hb1, hx, hcx⟩ := HR.out.at_ hlt
      obtain ⟨x, hx2, rfl⟩ : ∃ x, cl[k]? = some x ∧ x.1 = c := by
        rw [List.getElem?_map] at hx
        cases h9 : cl[k]? with
        | none => rw [h9] at hx; cases hx
        | some x => rw [h9] at hx; cases hx; exact ⟨x, rfl, rfl⟩
      obtain ⟨⟨xA, xn, xc, xo, xp⟩, xl⟩ := x
      obtain ⟨d0, d1, d2⟩ := Cs.cells hcx
      have hks := hK.ks (S := fun b => b < B0) (fun b hb o => hS b o hb)
      have r0 := hks.2 _ _ hb1 d0
      have r1 := hks.2 _ _ hb1 d1
      have r2 := hks.2 _ _ hb1 d2
      subst e1
      have z6 := block_of_cell r0
      dsimp only at z6 r0 r1 r2
      have HX := Lib.hid hx2
      have HY := Lib.hid hY
      have HK := Lib.hid hK
      have HS := Lib.hid hJs
      have hk0 : (0 : Int) ≤ (k : Int) := by omega
      have hkn : (k : Int) < (cn : Int) := by omega
      have g1 : wr.heap.size < wr.heap.size + 1 := by omega
      have HTL : Hid ((cl.take k).length = k ∧ cl.take k ++ [(⟨⟨xA, xn, xc, xo, xp⟩, xl⟩ : Cz)] = cl.take (k + 1)) := Lib.hid ⟨by rw [List.length_take]; have := HLN.out; omega, by rw [List.take_add_one, HX.out]; rfl⟩
      clear hY hK hJs hx hcx hx2 d0 d1 d2 hks hb1
      obtain ⟨fn, tmps, assign, body, hy', hR⟩ := HY.out (cl.take k) ⟨⟨xA, xn, xc, xo, xp⟩, xl⟩ (wr.alloc (.cells #[.slice xA xn xc, .int .i64 xo, .int .i64 xp] 35)) (hJ.alloc _ HS.out) (by show cl[(cl.take k).length]? = _; rw [HTL.out.1]; exact HX.out)
      unfold encCz at hy'
      dsimp only at hy'
      have HR9 := Lib.hid hR
      clear hR
      gi_wp2
      refine HR9.out.mono ?_
      rintro e W3 (⟨rfl, hJ3, hk3, _⟩ | ⟨rfl, hJx3, _⟩)
      · have HJ3 : Hid (J (cl.take (k + 1)) W3) := Lib.hid (by rw [← HTL.out.2]; exact hJ3)
        have HK3 : Hid (KpO Sg W W3) := Lib.hid ((HK.out.trans (KpO.grown (World.grownBy_alloc wr _ none) (by simp))).trans hk3)
        clear hJ3 hk3
        gi_wp2
        go_roundw
        case rel => exact ⟨k + 1, by omega, by go_num, HJ3.out, HK3.out⟩
        case measure => simp [intOf]; omega
      · have HX3 := Lib.hid hJx3
        clear hJx3
        gi_wp2
        refine bodyPost_ret (results_none rfl _ _ _) rfl ?_
        exact ⟨⟨_, rfl⟩, .inr ⟨_, HX3.out⟩⟩
    · obtain rfl : cn = k := by omega
      have HF : Hid (J cl wr) := Lib.hid (by rw [← HLN.out, List.take_length] at hJs; exact hJs)
      gi_wp2
      go_end0
      exact ⟨⟨_, rfl⟩, .inl ⟨_, rfl, HF.out⟩⟩
end Go.Proofs.Ytldbciflpnhfpaa

/- slices.Values of cases: the closure. -/

set_option linter.unusedSimpArgs false
set_option linter.unusedVariables false
namespace Go.Proofs.Ytldbciflpnhfpaa
open Go.RowKit

theorem Values_any (A : Option Addr) (n c : Nat) (w : World) :
    Calls Try.prog 41 #[.slice A n c] w fun e w' => ∃ sB, e = .returned (.func (.func 69) #[] #[.pointer (some ⟨sB, 0, none⟩)]) ∧ Blk w' sB 49 #[.slice A n c] ∧ w.heap.size ≤ sB ∧ Below w.heap.size w w' := by
  go_enter Try.func41, Try.ntmps41
  go_wp2
  go_ret
  exact ⟨_, rfl, heap_alloc_new w _, Nat.le_refl _, (Below.refl _ _).alloc (Nat.le_refl _) _⟩
end Go.Proofs.Ytldbciflpnhfpaa

/- always, as an iterator of cases. -/

set_option linter.unusedSimpArgs false
set_option linter.unusedVariables false
namespace Go.Proofs.Ytldbciflpnhfpaa
open Go.RowKit Go.Shelf
attribute [local go_sem] Oper.semAt_some

set_option maxRecDepth 100000 in
set_option maxHeartbeats 4000000 in
theorem always_y (n : Nat) (hn : 1 ≤ n) (nB cB cnt : Nat) (x : Cz) (Sg : Nat → Obj → Prop) (w : World) (hcnt : cnt ≤ 100000) (hnB : Blk w nB 3 #[.int .i64 (cnt : Int)]) (hcB : Blk w cB 35 #[.slice x.1.A x.1.n x.1.c, .int .i64 x.1.out, .int .i64 x.1.pump]) (hS : ∀ o, Sg nB o ∧ Sg cB o) :
    SeqY Fence.wide n Try.prog 70 #[.pointer (some ⟨nB, 0, none⟩), .pointer (some ⟨cB, 0, none⟩)] encCz (KpO Sg) (XCs (List.replicate cnt x)) (fun xs => xs = List.replicate cnt x) 0 w := by
  obtain ⟨⟨xA, xn, xc, xo, xp⟩, xl⟩ := x
  intro l J Jx W hW hWz hJ hJx hY h0
  have CN := Lib.hid (hnB.below hW hnB.lt)
  have CC := Lib.hid (hcB.below hW hcB.lt)
  have cn := CN.out.cell 0
  simp only [List.getElem?_toArray, List.getElem?_cons_zero] at cn
  have hz1 := CN.out.lt
  clear hnB hcB hW hWz
  refine callsIn_of_wp Try.func70 rfl trivial ?_ rfl
  simp only [Try.ntmps70, List.size_toArray, List.length_cons, List.length_nil, Nat.reduceAdd, Nat.reduceSub, Array.replicate_succ, Array.replicate_zero, List.push_toArray, List.append_toArray, List.nil_append, List.cons_append]
  gi_wp2
  clear cn hz1
  gi_loopw [5] (fun i wr => ∃ k : Nat, k ≤ cnt ∧ i = .int .i64 k ∧ J (List.replicate k ⟨⟨xA, xn, xc, xo, xp⟩, xl⟩) wr ∧ KpO Sg W wr) (fun i _ => cnt - (intOf i).toNat)
  case atStart => exact ⟨0, Nat.zero_le _, rfl, h0, KpO.refl _ _⟩
  case round =>
    obtain ⟨k, hk, rfl, hJs, hK⟩ := hrel
    by_cases hlt : k < cnt
    · have hbc := hK.blk (hS _).2 CC.out
      have r0 := hbc.cell 0
      have r1 := hbc.cell 1
      have r2 := hbc.cell 2
      simp only [List.getElem?_toArray, List.getElem?_cons_zero, List.getElem?_cons_succ] at r0 r1 r2
      have z6 := hbc.lt
      have HY := Lib.hid hY
      have HK := Lib.hid hK
      have HS := Lib.hid hJs
      have hk0 : (0 : Int) ≤ (k : Int) := by omega
      have hkn : (k : Int) < (cnt : Int) := by omega
      clear hY hK hJs hbc
      obtain ⟨fn, tmps, assign, body, hy', hR⟩ := HY.out _ ⟨⟨xA, xn, xc, xo, xp⟩, xl⟩ wr HS.out (by show (List.replicate cnt _)[(List.replicate k _).length]? = _; rw [List.length_replicate, List.getElem?_replicate, if_pos hlt])
      unfold encCz at hy'
      dsimp only at hy'
      have HR9 := Lib.hid hR
      clear hR
      gi_wp2
      refine HR9.out.mono ?_
      rintro e W3 (⟨rfl, hJ3, hk3, _⟩ | ⟨rfl, hJx3, _⟩)
      · have HJ3 : Hid (J (List.replicate (k + 1) ⟨⟨xA, xn, xc, xo, xp⟩, xl⟩) W3) := Lib.hid (by rw [List.replicate_succ']; exact hJ3)
        have HK3 := Lib.hid (HK.out.trans hk3)
        clear hJ3 hk3
        gi_wp2
        go_roundw
        case rel => exact ⟨k + 1, by omega, by go_num, HJ3.out, HK3.out⟩
        case measure => simp [intOf]; omega
      · have HX3 := Lib.hid hJx3
        clear hJx3
        gi_wp2
        refine bodyPost_ret (results_none rfl _ _ _) rfl ?_
        exact ⟨⟨_, rfl⟩, .inr ⟨_, HX3.out⟩⟩
    · obtain rfl : cnt = k := by omega
      have HF := Lib.hid hJs
      gi_wp2
      go_end0
      exact ⟨⟨_, rfl⟩, .inl ⟨_, rfl, HF.out⟩⟩
end Go.Proofs.Ytldbciflpnhfpaa
