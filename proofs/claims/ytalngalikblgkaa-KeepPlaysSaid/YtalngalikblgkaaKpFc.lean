/- keep: force, Force. -/
import Derived.Test.YtalngalikblgkaaKpFb

set_option linter.unusedSimpArgs false
set_option linter.unusedVariables false
namespace Go.Proofs.Ytalngalikblgkaa
open Go.RowKit

/-- The state before step j. -/
def frAt (s : Nat) (st : List Int) (j : Nat) : Int := if j = 0 then (s : Int) else st.getD (j - 1) 0
theorem getD_app {l : List Int} {x : Int} {j : Nat} (h : j < l.length) : (l ++ [x]).getD j 0 = l.getD j 0 := by
  rw [List.getD_eq_getElem?_getD, List.getD_eq_getElem?_getD, List.getElem?_append_left h]
theorem getD_new {l : List Int} {x : Int} : (l ++ [x]).getD l.length 0 = x := by
  rw [List.getD_eq_getElem?_getD, List.getElem?_append_right (Nat.le_refl _), Nat.sub_self]
  rfl
theorem frAt_app {s : Nat} {st : List Int} {x : Int} {j : Nat} (h : j ≤ st.length) : frAt s (st ++ [x]) j = frAt s st j := by
  unfold frAt
  by_cases h0 : j = 0
  · rw [if_pos h0, if_pos h0]
  · rw [if_neg h0, if_neg h0, getD_app (by omega)]
theorem frAt_new {s : Nat} {st : List Int} {x : Int} : frAt s (st ++ [x]) (st.length + 1) = x := by
  unfold frAt
  rw [if_neg (by omega), Nat.add_sub_cancel, getD_new]
/-- What has been forced behind k controls. -/
structure FrI (g : Gm) (inn : List Bool) (rnk : List Int) (s : Nat) (cs sh st : List Int) (k : Nat) : Prop where
  shl : sh.length = k
  stl : st.length = k
  step : ∀ j < k, ∃ t : Nat, frAt s st j = (t : Int) ∧ t < g.S ∧ g.good.getD t false = true ∧ (0 ≤ sh.getD j 0 ∧ sh.getD j 0 < g.H) ∧ (subL g t (cs.getD j 0).toNat)[(sh.getD j 0).toNat]? = some (frAt s st (j + 1))
  cur : frAt s st k = -1 ∨ ∃ t : Nat, frAt s st k = (t : Int) ∧ t < g.S ∧ inn.getD t false = false ∧ (rnk.getD t 0).toNat + k ≤ cs.length
theorem FrI.next {g : Gm} {inn : List Bool} {rnk : List Int} {s : Nat} {cs sh st : List Int} {k t h : Nat} {x : Int} (f : FrI g inn rnk s cs sh st k) (ht : frAt s st k = (t : Int)) (htS : t < g.S) (hg : g.good.getD t false = true) (hh : h < g.H) (hx : (subL g t (cs.getD k 0).toNat)[h]? = some x) (hc : x = -1 ∨ ∃ t' : Nat, x = (t' : Int) ∧ t' < g.S ∧ inn.getD t' false = false ∧ (rnk.getD t' 0).toNat + (k + 1) ≤ cs.length) : FrI g inn rnk s cs (sh ++ [(h : Int)]) (st ++ [x]) (k + 1) := by
  have e1 := f.shl
  have e2 := f.stl
  refine ⟨by simp [e1], by simp [e2], fun j hj => ?_, ?_⟩
  · rcases Nat.lt_succ_iff_lt_or_eq.1 hj with hj | hj
    · rw [frAt_app (by omega), frAt_app (by omega), getD_app (by omega)]
      exact f.step j hj
    · subst hj
      have e3 : (sh ++ [(h : Int)]).getD j 0 = (h : Int) := by rw [← e1]; exact getD_new
      have e4 : frAt s (st ++ [x]) (j + 1) = x := by rw [← e2]; exact frAt_new
      rw [frAt_app (by omega), e3, e4, Int.toNat_natCast]
      exact ⟨t, ht, htS, hg, ⟨by omega, by omega⟩, hx⟩
  · have e4 : frAt s (st ++ [x]) (k + 1) = x := by rw [← e2]; exact frAt_new
    rw [e4]
    exact hc
/-- A state that is not in has a rank, and a good one a rank above 0. -/
theorem right_rank {g : Gm} {inn : List Bool} {ctl rnk : List Int} (h : rightB g inn ctl rnk = true) {t : Nat} (ht : t < g.S) (hi : inn.getD t false = false) : 0 ≤ rnk.getD t 0 ∧ (rnk.getD t 0 = 0 → g.good.getD t false = false) ∧ (rnk.getD t 0 ≠ 0 → ∀ u < g.C, delayB g inn rnk t u = false) := by
  have h1 := rightB_iff.1 h t ht
  unfold rightF at h1
  rw [if_neg (by rw [hi]; decide)] at h1
  split at h1
  · rename_i hc
    refine ⟨hc.2, fun e => ?_, fun e u hu => ?_⟩
    · rw [if_pos e, Bool.not_eq_true'] at h1; exact h1
    · rw [if_neg e, decide_eq_true_eq] at h1
      exact not_true (fun h2 => leastF_ne (p := delayB g inn rnk t) hu h2 h1)
  · cases h1
theorem ans_ok {g : Gm} {inn : List Bool} {ctl rnk : List Int} (ok : GmOk g) (h : rightB g inn ctl rnk = true) {t u : Nat} (ht : t < g.S) (hi : inn.getD t false = false) (hg : g.good.getD t false = true) (hu : u < g.C) : ∃ k : Nat, ansF g inn rnk t u = (k : Int) ∧ k < g.H ∧ ∃ x, (subL g t u)[k]? = some x ∧ isInB inn x = false ∧ rankB rnk x < rnk.getD t 0 := by
  obtain ⟨h0, h1, h2⟩ := right_rank h ht hi
  have hne : rnk.getD t 0 ≠ 0 := fun e => by rw [h1 e] at hg; cases hg
  have hd := h2 hne u hu
  obtain ⟨x, hx, hxd⟩ := List.all_eq_false.1 (show (subL g t u).all (delB inn rnk (rnk.getD t 0)) = false from hd)
  have hxd := not_true hxd
  unfold delB at hxd
  rw [Bool.or_eq_false_iff, decide_eq_false_iff_not] at hxd
  obtain ⟨j, hj, e⟩ := List.mem_iff_getElem.1 hx
  have hl := sub_len ok ht hu
  have hgd : ∀ i (hi : i < (subL g t u).length), (subL g t u).getD i 0 = (subL g t u)[i] := fun i hi => by rw [List.getD_eq_getElem?_getD, List.getElem?_eq_getElem hi]; rfl
  unfold ansF
  rcases bsF_spec (fun x => !isInB inn x) (rankB rnk) (subL g t u) g.H with ⟨_, h3⟩ | ⟨b, hb, e3, h3, h4⟩
  · have := h3 j (by omega)
    rw [hgd j hj, e, hxd.1] at this
    cases this
  · have h5 := h4 j (by omega) (by rw [hgd j hj, e, hxd.1]; rfl)
    rw [hgd j hj, e] at h5
    rw [hgd b (by omega)] at h3 h5
    refine ⟨b, e3, hb, _, List.getElem?_eq_getElem (by omega), by simpa using h3, ?_⟩
    have := hxd.2
    omega
theorem over_nat {g : Gm} {t : Nat} : overB g (t : Int) = !g.good.getD t false := by
  unfold overB
  rw [beq_eq_false_iff_ne.2 (show (t : Int) ≠ -1 by omega), Int.toNat_natCast]
  rfl
/-- Two rows that grow do not lie in one block. -/
def Apart (v1 v2 : Value) : Prop := ∀ b, v1.ownBlock = some b → v2.ownBlock ≠ some b
theorem Apart.far {v1 v2 : Value} (h : Apart v1 v2) : v2.ownBlock = none ∨ v2.ownBlock ≠ v1.ownBlock := by
  cases e : v2.ownBlock with
  | none => exact Or.inl rfl
  | some b => exact Or.inr (fun e2 => h b e2.symm e)
theorem Apart.symm {v1 v2 : Value} (h : Apart v1 v2) : Apart v2 v1 := fun b h2 h1 => h b h1 h2
theorem Apart.grow {v1 v1' v2 : Value} {n : Nat} (h : Apart v1 v2) (hv : v1'.ownBlock = v1.ownBlock ∨ v1'.ownBlock = some n) (hn : ∀ b, v2.ownBlock = some b → b < n) : Apart v1' v2 := fun b h1 h2 => by
  rcases hv with e | e
  · exact h b (e ▸ h1) h2
  · rw [e] at h1
    have := hn b h2
    simp only [Option.some.injEq] at h1
    omega
/-- What force returns. -/
def FrEnd (g : Gm) (inn : List Bool) (rnk : List Int) (s : Nat) (cs : List Int) (A1 A2 : Option Addr) (k : Nat) (w' : World) : Prop := ∃ sh st, FrI g inn rnk s cs sh st k ∧ overB g (frAt s st k) = true ∧ k ≤ cs.length ∧ Rd w' w'.heap.size 1 encI A1 k sh ∧ Rd w' w'.heap.size 1 encI A2 k st
set_option maxRecDepth 100000 in
set_option maxHeartbeats 4000000 in
theorem force_any (nA : Option Addr) (nn nc gb go gc ib io ic cb co cc rb ro rc : Nat) (g : Gm) (inn : List Bool) (ctl rnk : List Int) (s hn hc : Nat) (hA : Option Addr) (cs : List Int) (w : World) (hin : GmIn w w.heap.size ⟨nA, some ⟨gb, go, none⟩, nn, nc, g.S, gc⟩ g) (ok : GmOk g) (hI : Rd w w.heap.size 1 encB (some ⟨ib, io, none⟩) g.S inn) (hC : Rd w w.heap.size 1 encI (some ⟨cb, co, none⟩) g.S ctl) (hR : Rd w w.heap.size 1 encI (some ⟨rb, ro, none⟩) g.S rnk) (hr : rightB g inn ctl rnk = true) (hS : s < g.S) (hi9 : inn.getD s false = false) (hH : Rd w w.heap.size 1 encI hA hn cs) (hb : ∀ x ∈ cs, 0 ≤ x ∧ x < g.C) (hn9 : hn ≤ 10000) (hrk : (rnk.getD s 0).toNat ≤ hn) :
    Calls Try.prog 55 #[.agg #[.int .i64 (g.S : Int), .int .i64 (g.C : Int), .int .i64 (g.H : Int), .slice nA nn nc, .slice (some ⟨gb, go, none⟩) g.S gc, .slice (some ⟨ib, io, none⟩) g.S ic, .slice (some ⟨cb, co, none⟩) g.S cc, .slice (some ⟨rb, ro, none⟩) g.S rc], .int .i64 (s : Int), .slice hA hn hc] w fun e w' => ∃ A1 k1 A2 k2 k, e = .returned (.tuple #[.slice A1 k k1, .slice A2 k k2, .bool true]) ∧ FrEnd g inn rnk s cs A1 A2 k w' ∧ Below w.heap.size w w' := by
  have KO := Lib.hid (fun (x : Int) W (h : Below w.heap.size w W) (hx : -1 ≤ x ∧ x < g.S) => isOver_any nA (some ⟨gb, go, none⟩) nn nc gc g x W (hin.next' h) hx)
  have KN := Lib.hid (fun (t u : Nat) W (h : Below w.heap.size w W) (ht : t < g.S) (hu : u < g.C) => answer_any nA nn nc gb go gc ib io ic cb co cc rb ro rc g inn rnk t u W (hin.next' h) ok (hI.next h) (hR.next h) ht hu)
  have KA := Lib.hid (fun (t u : Nat) W (h : Below w.heap.size w W) (ht : t < g.S) (hu : u < g.C) => after_any nA (some ⟨gb, go, none⟩) nn nc g.S gc g t u W (hin.next' h) ok ht hu)
  have HAN : Hid (∀ t u : Nat, t < g.S → inn.getD t false = false → g.good.getD t false = true → u < g.C → ∃ k : Nat, ansF g inn rnk t u = (k : Int) ∧ k < g.H ∧ ∃ x, (subL g t u)[k]? = some x ∧ isInB inn x = false ∧ rankB rnk x < rnk.getD t 0) := Lib.hid (fun t u h1 h2 h3 h4 => ans_ok ok hr h1 h2 h3 h4)
  have HRK : Hid (∀ t : Nat, t < g.S → inn.getD t false = false → 0 ≤ rnk.getD t 0 ∧ (rnk.getD t 0 = 0 → g.good.getD t false = false)) := Lib.hid (fun t h1 h2 => ⟨(right_rank hr h1 h2).1, (right_rank hr h1 h2).2.1⟩)
  have HSB : Hid (∀ t u : Nat, ∀ x ∈ subL g t u, -1 ≤ x ∧ x < g.S) := Lib.hid (fun t u x hx => sub_bd ok hx)
  have HHS := Lib.hid hH
  have HHL := Lib.hid hH.1
  have HBD := Lib.hid hb
  have hs400 := ok.s1
  have HF0 : Hid (FrI g inn rnk s cs [] [] 0) := Lib.hid ⟨rfl, rfl, fun j h => absurd h (by omega), Or.inr ⟨s, rfl, hS, hi9, by rw [hH.1]; omega⟩⟩
  have hS9 := hS
  obtain ⟨i0, hi0, hi1, hi2, hi3⟩ := info_parts intInfo
  have hi := Lib.hid (And.intro hi0 (And.intro hi1 (And.intro hi2 hi3)))
  clear hin ok hI hC hR hr hS hi9 hH hb hrk hi0 hi1 hi2 hi3
  go_enter Try.func55, Try.ntmps55
  go_wp2
  obtain ⟨bx, hbx⟩ : ∃ z, z = w.heap.size := ⟨_, rfl⟩
  obtain ⟨w1, hw1⟩ : ∃ z, z = w.alloc (.cells #[.int .i64 (g.S : Int), .int .i64 (g.C : Int), .int .i64 (g.H : Int), .slice nA nn nc, .slice (some ⟨gb, go, none⟩) g.S gc, .slice (some ⟨ib, io, none⟩) g.S ic, .slice (some ⟨cb, co, none⟩) g.S cc, .slice (some ⟨rb, ro, none⟩) g.S rc] 92) := ⟨_, rfl⟩
  have hi1 : Below w.heap.size w w1 := by rw [hw1]; exact (Below.refl _ _).alloc (Nat.le_refl _) _
  have hb1 : Blk w1 bx 92 #[.int .i64 (g.S : Int), .int .i64 (g.C : Int), .int .i64 (g.H : Int), .slice nA nn nc, .slice (some ⟨gb, go, none⟩) g.S gc, .slice (some ⟨ib, io, none⟩) g.S ic, .slice (some ⟨cb, co, none⟩) g.S cc, .slice (some ⟨rb, ro, none⟩) g.S rc] := by rw [hw1, hbx]; exact heap_alloc_new w _
  rw [← hw1, ← hbx]
  have HL := Lib.hid hi1
  have HBX := Lib.hid hb1
  clear hw1 hbx hi1 hb1
  go_loopw [1, 6, 7, 14] (fun v v1 v2 i wr => ∃ k : Nat, k ≤ hn ∧ i = .int .i64 k ∧ ∃ sh st : List Int, v = .int .i64 (frAt s st k) ∧ Hid ((Below w.heap.size w wr ∧ Blk wr bx 92 #[.int .i64 (g.S : Int), .int .i64 (g.C : Int), .int .i64 (g.H : Int), .slice nA nn nc, .slice (some ⟨gb, go, none⟩) g.S gc, .slice (some ⟨ib, io, none⟩) g.S ic, .slice (some ⟨cb, co, none⟩) g.S cc, .slice (some ⟨rb, ro, none⟩) g.S rc]) ∧ FrI g inn rnk s cs sh st k ∧ Apart v1 v2 ∧ wr.ownsRow w.heap.size 3 1 v1 k (sh.flatMap encI) ∧ wr.ownsRow w.heap.size 3 1 v2 k (st.flatMap encI))) (fun _ _ _ i _ => hn - (intOf i).toNat)
  case atStart => exact ⟨0, by omega, rfl, [], [], rfl, Lib.hid ⟨⟨HL.out, HBX.out⟩, HF0.out, fun b h => (by simp [Value.ownBlock] at h), World.ownsRow_nil _ _ _ _, World.ownsRow_nil _ _ _ _⟩⟩
  case round =>
    obtain ⟨k, hk, rfl, sh, st, rfl, HW⟩ := hrel
    obtain ⟨wq, hwq⟩ : ∃ z, z = wr := ⟨wr, rfl⟩
    subst hwq
    obtain ⟨v1, hv1⟩ : ∃ z, z = u6 := ⟨u6, rfl⟩
    subst hv1
    obtain ⟨v2, hv2⟩ : ∃ z, z = u7 := ⟨u7, rfl⟩
    subst hv2
    have HFR := Lib.hid HW.out.2.1
    have HROW := Lib.hid HW.out.2.2.2
    have HAP := Lib.hid HW.out.2.2.1
    have HBW := Lib.hid HW.out.1.2
    have HKC : Hid (k ≤ cs.length) := Lib.hid (by rw [HHL.out]; exact hk)
    obtain ⟨x9, hx9⟩ : ∃ z, z = frAt s st k := ⟨_, rfl⟩
    have HX9 : Hid (frAt s st k = x9) := Lib.hid hx9.symm
    have HXB : Hid (-1 ≤ x9 ∧ x9 < g.S) := Lib.hid (by
      rcases HFR.out.cur with h | ⟨t, h, ht, _⟩
      · rw [← hx9] at h; omega
      · rw [← hx9] at h; omega)
    rw [← hx9]
    clear hx9
    by_cases hlt : k < hn
    · obtain ⟨lb, lo, cx, e1, hh9, hhx, hhc⟩ := (HHS.out.next HW.out.1.1).at_ hlt
      subst e1
      have ch := cellI hhc
      have zh := block_of_cell ch
      dsimp only at zh
      have hcb := HBD.out cx (List.mem_of_getElem? hhx)
      obtain ⟨u, rfl⟩ : ∃ u : Nat, cx = (u : Int) := ⟨cx.toNat, by omega⟩
      have HCU : Hid ((cs.getD k 0).toNat = u ∧ u < g.C) := Lib.hid ⟨by rw [List.getD_eq_getElem?_getD, hhx]; rfl, by omega⟩
      have hk0 : (0 : Int) ≤ (k : Int) := by omega
      have hkn : (k : Int) < (hn : Int) := by omega
      obtain ⟨ov, hov⟩ : ∃ z, z = overB g x9 := ⟨_, rfl⟩
      have KQ0 := Lib.hid (KO.out x9 wq HW.out.1.1 HXB.out)
      have HOV0 := Lib.hid hov
      rw [← hov] at KQ0
      clear hhx hhc hh9 hcb hov
      have hbk := HBW.out
      have e0 := hbk.cell 0
      have e1 := hbk.cell 1
      have e2 := hbk.cell 2
      have e3 := hbk.cell 3
      have e4 := hbk.cell 4
      have e5 := hbk.cell 5
      have e6 := hbk.cell 6
      have e7 := hbk.cell 7
      have ze := hbk.lt
      simp only [List.getElem?_toArray, List.getElem?_cons_zero, List.getElem?_cons_succ] at e0 e1 e2 e3 e4 e5 e6 e7
      clear hbk
      go_wp2_with fail
      refine KQ0.out.mono ?_
      rintro e w2 ⟨rfl, hB2⟩
      have HL2 := Lib.hid (below3 HW.out.1.1 hB2 (Nat.le_refl _))
      have HBW2 := Lib.hid (HBW.out.below hB2 HBW.out.lt)
      have HROW2 := Lib.hid (And.intro (row_next HROW.out.1 hB2) (row_next HROW.out.2 hB2))
      clear hB2 e0 e1 e2 e3 e4 e5 e6 e7 ze ch zh HW HBW HROW
      cases ov
      · have hgd : ∃ t : Nat, x9 = (t : Int) ∧ t < g.S ∧ inn.getD t false = false ∧ (rnk.getD t 0).toNat + k ≤ cs.length ∧ g.good.getD t false = true := by
          rcases HFR.out.cur with h | ⟨t, h, ht, h1, h2⟩
          · have h3 := HOV0.out
            rw [← HX9.out, h] at h3
            cases h3
          · rw [HX9.out] at h
            have h3 := HOV0.out
            rw [h, over_nat] at h3
            exact ⟨t, h, ht, h1, h2, by simpa using h3.symm⟩
        obtain ⟨t, rfl, ht, hti, htr, htg⟩ := hgd
        obtain ⟨h, hans, hhH, x, hxs, hxi, hxr⟩ := HAN.out t u ht hti htg HCU.out.2
        have KN1 := Lib.hid (KN.out t u w2 HL2.out ht HCU.out.2)
        rw [hans] at KN1
        have hxb := HSB.out t u x (List.mem_of_getElem? hxs)
        have HSX := Lib.hid hxs
        have HNF : Hid (FrI g inn rnk s cs (sh ++ [(h : Int)]) (st ++ [x]) (k + 1)) := Lib.hid (HFR.out.next HX9.out ht htg hhH (by rw [HCU.out.1]; exact hxs) (by
          by_cases hx1 : x = -1
          · exact Or.inl hx1
          · obtain ⟨t', rfl⟩ : ∃ t' : Nat, x = (t' : Int) := ⟨x.toNat, by omega⟩
            rw [isInB_nat] at hxi
            have hr9 : rankB rnk (t' : Int) = rnk.getD t' 0 := by unfold rankB; rw [if_neg hx1, Int.toNat_natCast]
            rw [hr9] at hxr
            have h0 := (HRK.out t' (by omega) hxi).1
            exact Or.inr ⟨t', rfl, by omega, hxi, by omega⟩))
        have HHH := Lib.hid hhH
        have HTS := Lib.hid ht
        clear hans hxs hxi hxr hxb hti htr htg
        have hbk := HBW2.out
        have e0 := hbk.cell 0
        have e1 := hbk.cell 1
        have e2 := hbk.cell 2
        have e3 := hbk.cell 3
        have e4 := hbk.cell 4
        have e5 := hbk.cell 5
        have e6 := hbk.cell 6
        have e7 := hbk.cell 7
        have ze := hbk.lt
        simp only [List.getElem?_toArray, List.getElem?_cons_zero, List.getElem?_cons_succ] at e0 e1 e2 e3 e4 e5 e6 e7
        clear hbk
        go_wp2_with fail
        refine KN1.out.mono ?_
        rintro e w3 ⟨rfl, hB3⟩
        have HL3 := Lib.hid (below3 HL2.out hB3 (Nat.le_refl _))
        have HBW3 := Lib.hid (HBW2.out.below hB3 HBW2.out.lt)
        have HROW3 := Lib.hid (And.intro (row_next HROW2.out.1 hB3) (row_next HROW2.out.2 hB3))
        clear hB3 e0 e1 e2 e3 e4 e5 e6 e7 ze KN1 HBW2 HROW2
        have hbk := HBW3.out
        have e0 := hbk.cell 0
        have e1 := hbk.cell 1
        have e2 := hbk.cell 2
        have e3 := hbk.cell 3
        have e4 := hbk.cell 4
        have e5 := hbk.cell 5
        have e6 := hbk.cell 6
        have e7 := hbk.cell 7
        have ze := hbk.lt
        simp only [List.getElem?_toArray, List.getElem?_cons_zero, List.getElem?_cons_succ] at e0 e1 e2 e3 e4 e5 e6 e7
        clear hbk
        go_wp2_with fail
        refine (KA.out t u w3 HL3.out HTS.out HCU.out.2).mono ?_
        rintro e w4 ⟨A9, cp, rfl, hB4, hrd⟩
        obtain ⟨lb9, lo9, x9, e9, hlb9, hx9, hc9⟩ := (hrd.next hB4).at_ HHH.out
        have hxx : x9 = x := by
          have h2 := HSX.out
          rw [hx9] at h2
          exact Option.some.inj h2
        subst hxx
        subst e9
        have c9 := cellI hc9
        have HL4 := Lib.hid (below3 HL3.out hB4 (Nat.le_refl _))
        have HBW4 := Lib.hid (HBW3.out.below hB4 HBW3.out.lt)
        have HR1 := Lib.hid (row_next HROW3.out.1 hB4)
        have HR2 := Lib.hid (row_next HROW3.out.2 hB4)
        have i1 : (0 : Int) ≤ (h : Int) := by omega
        have i2 : (h : Int) < (g.H : Int) := by have := HHH.out; omega
        have z4 := HL4.out.size
        clear hB4 hrd hlb9 hx9 hc9 e0 e1 e2 e3 e4 e5 e6 e7 ze HBW3 HROW3
        go_wp2_with (at_builtin; refine wpList_append_own_at _ rfl (.tmp 34) (.tmp 36) 22 rfl w.heap.size 3 i0 (.int .i64 0) 1 8 Try.underlying22 hi.out.1 hi.out.2.1 hi.out.2.2.1 hi.out.2.2.2 rfl (by decide) v1 k (sh.flatMap encI) rfl (HR1.out.alloc _) ⟨w4.heap.size, 0, none⟩ 1 1 [.int .i64 (h : Int)] rfl rfl (cell_one_new _ _ _) ?_ ?_ ?_ ?_ ?_)
        case _ => (intro u hu; simp only [List.mem_cons, List.mem_nil_iff, or_false] at hu; subst hu; rfl)
        case _ => simp only [maxLen]; omega
        case _ => omega
        case _ => simp; omega
        intro v1' w5 hown1 hg1 _ hat1
        have HA1 := Lib.hid (And.intro hown1 (And.intro hg1 hat1))
        have hl5 : Below w.heap.size w w5 := (HL4.out.alloc (o := .cells #[.int .i64 (h : Int)] 3) HL4.out.size).grown hg1 (by simp; omega) (fun r e => (World.ownsRow.lt HR1.out r e).1)
        have HR25 := Lib.hid ((HR2.out.alloc (.cells #[.int .i64 (h : Int)] 3)).kept hg1 HAP.out.far)
        have HL5 := Lib.hid hl5
        have z5 := hl5.size
        clear hown1 hg1 hat1 hl5 c9
        go_wp2_with (at_builtin; refine wpList_append_own_at _ rfl (.tmp 38) (.tmp 40) 22 rfl w.heap.size 3 i0 (.int .i64 0) 1 8 Try.underlying22 hi.out.1 hi.out.2.1 hi.out.2.2.1 hi.out.2.2.2 rfl (by decide) v2 k (st.flatMap encI) rfl (HR25.out.alloc _) ⟨w5.heap.size, 0, none⟩ 1 1 [.int .i64 x9] rfl rfl (cell_one_new _ _ _) ?_ ?_ ?_ ?_ ?_)
        case _ => (intro u hu; simp only [List.mem_cons, List.mem_nil_iff, or_false] at hu; subst hu; rfl)
        case _ => simp only [maxLen]; omega
        case _ => omega
        case _ => simp; omega
        intro v2' w6 hown2 hg2 _ hat2
        have hs45 : w4.heap.size + 1 ≤ w5.heap.size := by have := HA1.out.2.1.size; simpa using this
        have hap : Apart v1' v2' := by
          have a1 : Apart v1' v2 := HAP.out.grow HA1.out.2.2 (fun b e => by have := (World.ownsRow.lt HR2.out b e).2; simp; omega)
          have a2 : Apart v2' v1' := a1.symm.grow hat2 (fun b e => by have := (World.ownsRow.lt HA1.out.1 b e).2; simp; omega)
          exact a2.symm
        have HFIN : Hid ((Below w.heap.size w w6 ∧ Blk w6 bx 92 #[.int .i64 (g.S : Int), .int .i64 (g.C : Int), .int .i64 (g.H : Int), .slice nA nn nc, .slice (some ⟨gb, go, none⟩) g.S gc, .slice (some ⟨ib, io, none⟩) g.S ic, .slice (some ⟨cb, co, none⟩) g.S cc, .slice (some ⟨rb, ro, none⟩) g.S rc]) ∧ FrI g inn rnk s cs (sh ++ [(h : Int)]) (st ++ [x9]) (k + 1) ∧ Apart v1' v2' ∧ w6.ownsRow w.heap.size 3 1 v1' (k + 1) ((sh ++ [(h : Int)]).flatMap encI) ∧ w6.ownsRow w.heap.size 3 1 v2' (k + 1) ((st ++ [x9]).flatMap encI)) := Lib.hid (by
          have a1 : Apart v1' v2 := HAP.out.grow HA1.out.2.2 (fun b e => by have := (World.ownsRow.lt HR2.out b e).2; simp; omega)
          refine ⟨⟨(HL5.out.alloc (o := .cells #[.int .i64 x9] 3) HL5.out.size).grown hg2 (by simp; omega) (fun r e => (World.ownsRow.lt HR25.out r e).1), ?_⟩, HNF.out, hap, ?_, ?_⟩
          · have b1 := (HBW4.out.alloc (.cells #[.int .i64 (h : Int)] 3)).kept HA1.out.2.1 (own_ne HR1.out HBW4.out (by decide))
            exact (b1.alloc (.cells #[.int .i64 x9] 3)).kept hg2 (own_ne HR25.out b1 (by decide))
          · rw [List.flatMap_append]
            exact (HA1.out.1.alloc (.cells #[.int .i64 x9] 3)).kept hg2 a1.symm.far
          · rw [List.flatMap_append]
            exact hown2)
        have HST : Hid (frAt s (st ++ [x9]) (k + 1) = x9) := Lib.hid (by rw [← HFR.out.stl]; exact frAt_new)
        clear hown2 hg2 hat2 hap hs45
        go_wp2
        go_roundw
        case rel => exact ⟨k + 1, by omega, by go_num, _, _, by rw [HST.out], HFIN⟩
        case measure => simp [intOf]; omega
      · have HOV : Hid (overB g x9 = true) := Lib.hid HOV0.out.symm
        have HBW := HBW2
        have HROW := HROW2
        have KQ := Lib.hid (KO.out x9 w2 HL2.out HXB.out)
        rw [HOV.out] at KQ
        have hbk := HBW.out
        have e0 := hbk.cell 0
        have e1 := hbk.cell 1
        have e2 := hbk.cell 2
        have e3 := hbk.cell 3
        have e4 := hbk.cell 4
        have ze := hbk.lt
        simp only [List.getElem?_toArray, List.getElem?_cons_zero, List.getElem?_cons_succ] at e0 e1 e2 e3 e4
        clear hbk
        go_wp2_with fail
        refine KQ.out.mono ?_
        rintro e w9 ⟨rfl, hB9⟩
        have HE9 := Lib.hid (And.intro (below3 HL2.out hB9 (Nat.le_refl _)) (And.intro (row_next HROW.out.1 hB9) (row_next HROW.out.2 hB9)))
        clear hB9 e0 e1 e2 e3 e4 ze
        obtain ⟨A1, k1, rfl⟩ := row_slice HROW.out.1
        obtain ⟨A2, k2, rfl⟩ := row_slice HROW.out.2
        go_wp2
        refine bodyPost_ret (v := .tuple #[.slice A1 k k1, .slice A2 k k2, .bool true]) ?_ rfl ?_
        · simp [results, Try.results55, go_sem]
        · exact ⟨A1, k1, A2, k2, k, rfl, ⟨sh, st, HFR.out, by rw [HX9.out]; exact HOV.out, HKC.out, row_rd (f := encI) (size := 1) (fun _ => rfl) HFR.out.shl HE9.out.2.1, row_rd (f := encI) (size := 1) (fun _ => rfl) HFR.out.stl HE9.out.2.2⟩, HE9.out.1⟩
    · obtain rfl : k = hn := by omega
      have HOV : Hid (overB g x9 = true) := Lib.hid (by
        rcases HFR.out.cur with h | ⟨t, h, ht, h1, h2⟩
        · rw [← HX9.out, h]; rfl
        · have h3 := HRK.out t ht h1
          rw [← HX9.out, h, over_nat, h3.2 (by have := HHL.out; omega)]
          rfl)
      have KQ := Lib.hid (KO.out x9 wq HW.out.1.1 HXB.out)
      rw [HOV.out] at KQ
      have hbk := HBW.out
      have e0 := hbk.cell 0
      have e1 := hbk.cell 1
      have e2 := hbk.cell 2
      have e3 := hbk.cell 3
      have e4 := hbk.cell 4
      have ze := hbk.lt
      simp only [List.getElem?_toArray, List.getElem?_cons_zero, List.getElem?_cons_succ] at e0 e1 e2 e3 e4
      clear hbk
      go_wp2_with fail
      refine KQ.out.mono ?_
      rintro e w9 ⟨rfl, hB9⟩
      have HE9 := Lib.hid (And.intro (below3 HW.out.1.1 hB9 (Nat.le_refl _)) (And.intro (row_next HROW.out.1 hB9) (row_next HROW.out.2 hB9)))
      clear hB9 e0 e1 e2 e3 e4 ze
      obtain ⟨A1, k1, rfl⟩ := row_slice HROW.out.1
      obtain ⟨A2, k2, rfl⟩ := row_slice HROW.out.2
      go_wp2
      refine bodyPost_ret (v := .tuple #[.slice A1 k k1, .slice A2 k k2, .bool true]) ?_ rfl ?_
      · simp [results, Try.results55, go_sem]
      · exact ⟨A1, k1, A2, k2, k, rfl, ⟨sh, st, HFR.out, by rw [HX9.out]; exact HOV.out, HKC.out, row_rd (f := encI) (size := 1) (fun _ => rfl) HFR.out.shl HE9.out.2.1, row_rd (f := encI) (size := 1) (fun _ => rfl) HFR.out.stl HE9.out.2.2⟩, HE9.out.1⟩

set_option maxRecDepth 100000 in
set_option maxHeartbeats 4000000 in
theorem Force_in (nA : Option Addr) (nn nc gb go gc ib io ic cb co cc rb ro rc : Nat) (g : Gm) (inn : List Bool) (ctl rnk : List Int) (s hn hc : Nat) (hA : Option Addr) (cs : List Int) (w : World) (hin : GmIn w w.heap.size ⟨nA, some ⟨gb, go, none⟩, nn, nc, g.S, gc⟩ g) (ok : GmOk g) (hI : Rd w w.heap.size 1 encB (some ⟨ib, io, none⟩) g.S inn) (hC : Rd w w.heap.size 1 encI (some ⟨cb, co, none⟩) g.S ctl) (hR : Rd w w.heap.size 1 encI (some ⟨rb, ro, none⟩) g.S rnk) (hr : rightB g inn ctl rnk = true) (hS : s < g.S) (hi9 : inn.getD s false = true) (hH : Rd w w.heap.size 1 encI hA hn cs) (hb : ∀ x ∈ cs, 0 ≤ x ∧ x < g.C) (hn9 : hn ≤ 10000) :
    Calls Try.prog 30 #[.agg #[.int .i64 (g.S : Int), .int .i64 (g.C : Int), .int .i64 (g.H : Int), .slice nA nn nc, .slice (some ⟨gb, go, none⟩) g.S gc], .agg #[.slice (some ⟨ib, io, none⟩) g.S ic, .slice (some ⟨cb, co, none⟩) g.S cc, .slice (some ⟨rb, ro, none⟩) g.S rc], .int .i64 (s : Int), .slice hA hn hc] w fun e w' => e = .returned (.tuple #[.slice none 0 0, .slice none 0 0, .int .i64 9]) ∧ Below w.heap.size w w' := by
  have KV0 := fun W (h : Below w.heap.size w W) => Verify_any nA nn nc gb go gc ib io ic cb co cc rb ro rc g inn ctl rnk W (hin.next' h) ok (hI.next h) (hC.next h) (hR.next h)
  rw [hr] at KV0
  have KV := Lib.hid KV0
  have hs4 := ok.s1
  have KH0 := fun W => hasState_any g.S g.C g.H (s : Int) (.slice nA nn nc) (.slice (some ⟨gb, go, none⟩) g.S gc) W (by omega) (by omega)
  rw [inB_yes (show (0 : Int) ≤ (s : Int) ∧ (s : Int) ≤ (g.S : Int) - 1 by omega)] at KH0
  have KH := Lib.hid KH0
  have KS := Lib.hid (fun W (h : Below w.heap.size w W) => controls_all nA (some ⟨gb, go, none⟩) nn nc g.S gc g hA hn hc cs W ok (hH.next h) hb (by omega))
  obtain ⟨b3, o3, y3, e3, hb3, hx3, hc3⟩ := hI.at_ hS
  obtain ⟨rfl, rfl⟩ : b3 = ib ∧ o3 = io := by simpa [eq_comm] using e3
  have hy3 : y3 = true := by rw [← hi9, List.getD_eq_getElem?_getD, hx3]; rfl
  subst hy3
  have HCI : Hid (b3 < w.heap.size ∧ w.cell? ⟨b3, o3 + s, none⟩ = some (.bool true)) := Lib.hid ⟨hb3, cellB hc3⟩
  have j1 : (0 : Int) ≤ (s : Int) := by omega
  have j2 : (s : Int) < (g.S : Int) := by omega
  clear KV0 KH0 hin ok hI hC hR hr hS hi9 hH hb e3 hb3 hx3 hc3
  go_enter Try.func30, Try.ntmps30
  go_wp2_with fail
  obtain ⟨bx, hbx⟩ : ∃ z, z = w.heap.size := ⟨_, rfl⟩
  obtain ⟨by', hby⟩ : ∃ z, z = bx + 1 := ⟨_, rfl⟩
  obtain ⟨w1, hw1⟩ : ∃ z, z = (w.alloc (.cells #[.int .i64 (g.S : Int), .int .i64 (g.C : Int), .int .i64 (g.H : Int), .slice nA nn nc, .slice (some ⟨gb, go, none⟩) g.S gc] 25)).alloc (.cells #[.slice (some ⟨b3, o3, none⟩) g.S ic, .slice (some ⟨cb, co, none⟩) g.S cc, .slice (some ⟨rb, ro, none⟩) g.S rc] 27) := ⟨_, rfl⟩
  have hi1 : Below w.heap.size w w1 := by rw [hw1]; (repeat' (first | (with_reducible exact Below.refl _ _) | (with_reducible assumption) | (with_reducible refine below_drewN ?_ _) | (with_reducible refine below_after (by assumption) ?_ ?_) | (with_reducible refine Below.drew ?_) | (with_reducible refine Below.alloc ?_ ?_ _) | (with_reducible refine Below.setCell ?_ ?_ _) | omega | (simp; omega) | (simp; done)))
  have hb1 : Blk w1 bx 25 #[.int .i64 (g.S : Int), .int .i64 (g.C : Int), .int .i64 (g.H : Int), .slice nA nn nc, .slice (some ⟨gb, go, none⟩) g.S gc] := by rw [hw1, hbx]; exact Blk.alloc (heap_alloc_new w _) _
  have hb2 : Blk w1 by' 27 #[.slice (some ⟨b3, o3, none⟩) g.S ic, .slice (some ⟨cb, co, none⟩) g.S cc, .slice (some ⟨rb, ro, none⟩) g.S rc] := by
    have e2 := heap_alloc_new (w.alloc (.cells #[.int .i64 (g.S : Int), .int .i64 (g.C : Int), .int .i64 (g.H : Int), .slice nA nn nc, .slice (some ⟨gb, go, none⟩) g.S gc] 25)) (.cells #[.slice (some ⟨b3, o3, none⟩) g.S ic, .slice (some ⟨cb, co, none⟩) g.S cc, .slice (some ⟨rb, ro, none⟩) g.S rc] 27)
    simp only [World.size_alloc] at e2
    rw [hw1, hby, hbx]
    exact e2
  rw [← hw1, ← hbx, ← hby]
  clear hw1 hbx hby
  refine (KV.out _ hi1).mono ?_
  rintro e w2 ⟨rfl, hB2⟩
  have HF2 := Lib.hid (And.intro (below3 hi1 hB2 (Nat.le_refl _)) (And.intro (hb1.below hB2 hb1.lt) (hb2.below hB2 hb2.lt)))
  clear hB2 hi1 hb1 hb2 KV
  simp only [show verifyN true = 0 from rfl]
  have hbk := HF2.out.2.1
  have e0 := hbk.cell 0
  have e1 := hbk.cell 1
  have e2 := hbk.cell 2
  have e3 := hbk.cell 3
  have e4 := hbk.cell 4
  have ze := hbk.lt
  simp only [List.getElem?_toArray, List.getElem?_cons_zero, List.getElem?_cons_succ] at e0 e1 e2 e3 e4
  clear hbk
  go_wp2_with fail
  refine (KH.out _).mono ?_
  rintro e w3 ⟨rfl, hB3⟩
  have HF3 := Lib.hid (And.intro (below3 HF2.out.1 hB3 (Nat.le_refl _)) (And.intro (HF2.out.2.1.below hB3 HF2.out.2.1.lt) (HF2.out.2.2.below hB3 HF2.out.2.2.lt)))
  clear hB3 HF2 KH e0 e1 e2 e3 e4 ze
  have hbk := HF3.out.2.1
  have e0 := hbk.cell 0
  have e1 := hbk.cell 1
  have e2 := hbk.cell 2
  have e3 := hbk.cell 3
  have e4 := hbk.cell 4
  have ze := hbk.lt
  simp only [List.getElem?_toArray, List.getElem?_cons_zero, List.getElem?_cons_succ] at e0 e1 e2 e3 e4
  clear hbk
  go_wp2_with fail
  refine (KS.out _ HF3.out.1).mono ?_
  rintro e w4 ⟨rfl, hB4⟩
  have HF4 := Lib.hid (And.intro (below3 HF3.out.1 hB4 (Nat.le_refl _)) (And.intro (HF3.out.2.1.below hB4 HF3.out.2.1.lt) (HF3.out.2.2.below hB4 HF3.out.2.2.lt)))
  clear hB4 HF3 KS e0 e1 e2 e3 e4 ze
  have hbk := HF4.out.2.1
  have e0 := hbk.cell 0
  have e1 := hbk.cell 1
  have e2 := hbk.cell 2
  have e3 := hbk.cell 3
  have e4 := hbk.cell 4
  have ze := hbk.lt
  simp only [List.getElem?_toArray, List.getElem?_cons_zero, List.getElem?_cons_succ] at e0 e1 e2 e3 e4
  clear hbk
  have hbk := HF4.out.2.2
  have o0 := hbk.cell 0
  have o1 := hbk.cell 1
  have o2 := hbk.cell 2
  have zo := hbk.lt
  simp only [List.getElem?_toArray, List.getElem?_cons_zero, List.getElem?_cons_succ] at o0 o1 o2
  clear hbk
  have ci : w4.cell? ⟨b3, o3 + s, none⟩ = some (.bool true) := (HF4.out.1.cell (p := ⟨b3, o3 + s, none⟩) HCI.out.1).trans HCI.out.2
  have zi := block_of_cell ci
  dsimp only at zi
  go_wp2
  refine bodyPost_ret (v := .tuple #[.slice none 0 0, .slice none 0 0, .int .i64 9]) ?_ rfl ?_
  · simp [results, Try.results30, go_sem]
  · exact ⟨rfl, HF4.out.1⟩
set_option maxRecDepth 100000 in
set_option maxHeartbeats 4000000 in
theorem Force_out (nA : Option Addr) (nn nc gb go gc ib io ic cb co cc rb ro rc : Nat) (g : Gm) (inn : List Bool) (ctl rnk : List Int) (s hn hc : Nat) (hA : Option Addr) (cs : List Int) (w : World) (hin : GmIn w w.heap.size ⟨nA, some ⟨gb, go, none⟩, nn, nc, g.S, gc⟩ g) (ok : GmOk g) (hI : Rd w w.heap.size 1 encB (some ⟨ib, io, none⟩) g.S inn) (hC : Rd w w.heap.size 1 encI (some ⟨cb, co, none⟩) g.S ctl) (hR : Rd w w.heap.size 1 encI (some ⟨rb, ro, none⟩) g.S rnk) (hr : rightB g inn ctl rnk = true) (hS : s < g.S) (hi9 : inn.getD s false = false) (hH : Rd w w.heap.size 1 encI hA hn cs) (hb : ∀ x ∈ cs, 0 ≤ x ∧ x < g.C) (hn9 : hn ≤ 10000) (hrk : (rnk.getD s 0).toNat ≤ hn) :
    Calls Try.prog 30 #[.agg #[.int .i64 (g.S : Int), .int .i64 (g.C : Int), .int .i64 (g.H : Int), .slice nA nn nc, .slice (some ⟨gb, go, none⟩) g.S gc], .agg #[.slice (some ⟨ib, io, none⟩) g.S ic, .slice (some ⟨cb, co, none⟩) g.S cc, .slice (some ⟨rb, ro, none⟩) g.S rc], .int .i64 (s : Int), .slice hA hn hc] w fun e w' => ∃ A1 k1 A2 k2 k, e = .returned (.tuple #[.slice A1 k k1, .slice A2 k k2, .int .i64 0]) ∧ FrEnd g inn rnk s cs A1 A2 k w' ∧ Below w.heap.size w w' := by
  have KV0 := fun W (h : Below w.heap.size w W) => Verify_any nA nn nc gb go gc ib io ic cb co cc rb ro rc g inn ctl rnk W (hin.next' h) ok (hI.next h) (hC.next h) (hR.next h)
  rw [hr] at KV0
  have KV := Lib.hid KV0
  have hs4 := ok.s1
  have KH0 := fun W => hasState_any g.S g.C g.H (s : Int) (.slice nA nn nc) (.slice (some ⟨gb, go, none⟩) g.S gc) W (by omega) (by omega)
  rw [inB_yes (show (0 : Int) ≤ (s : Int) ∧ (s : Int) ≤ (g.S : Int) - 1 by omega)] at KH0
  have KH := Lib.hid KH0
  have KS := Lib.hid (fun W (h : Below w.heap.size w W) => controls_all nA (some ⟨gb, go, none⟩) nn nc g.S gc g hA hn hc cs W ok (hH.next h) hb (by omega))
  have KP := Lib.hid (fun W (h : Below w.heap.size w W) => force_any nA nn nc gb go gc ib io ic cb co cc rb ro rc g inn ctl rnk s hn hc hA cs W (hin.next' h) ok (hI.next h) (hC.next h) (hR.next h) hr hS hi9 (hH.next h) hb hn9 hrk)
  obtain ⟨b3, o3, y3, e3, hb3, hx3, hc3⟩ := hI.at_ hS
  obtain ⟨rfl, rfl⟩ : b3 = ib ∧ o3 = io := by simpa [eq_comm] using e3
  have hy3 : y3 = false := by rw [← hi9, List.getD_eq_getElem?_getD, hx3]; rfl
  subst hy3
  have HCI : Hid (b3 < w.heap.size ∧ w.cell? ⟨b3, o3 + s, none⟩ = some (.bool false)) := Lib.hid ⟨hb3, cellB hc3⟩
  have j1 : (0 : Int) ≤ (s : Int) := by omega
  have j2 : (s : Int) < (g.S : Int) := by omega
  clear KV0 KH0 hin ok hI hC hR hr hS hi9 hH hb e3 hb3 hx3 hc3 hrk
  go_enter Try.func30, Try.ntmps30
  go_wp2_with fail
  obtain ⟨bx, hbx⟩ : ∃ z, z = w.heap.size := ⟨_, rfl⟩
  obtain ⟨by', hby⟩ : ∃ z, z = bx + 1 := ⟨_, rfl⟩
  obtain ⟨w1, hw1⟩ : ∃ z, z = (w.alloc (.cells #[.int .i64 (g.S : Int), .int .i64 (g.C : Int), .int .i64 (g.H : Int), .slice nA nn nc, .slice (some ⟨gb, go, none⟩) g.S gc] 25)).alloc (.cells #[.slice (some ⟨b3, o3, none⟩) g.S ic, .slice (some ⟨cb, co, none⟩) g.S cc, .slice (some ⟨rb, ro, none⟩) g.S rc] 27) := ⟨_, rfl⟩
  have hi1 : Below w.heap.size w w1 := by rw [hw1]; (repeat' (first | (with_reducible exact Below.refl _ _) | (with_reducible assumption) | (with_reducible refine below_drewN ?_ _) | (with_reducible refine below_after (by assumption) ?_ ?_) | (with_reducible refine Below.drew ?_) | (with_reducible refine Below.alloc ?_ ?_ _) | (with_reducible refine Below.setCell ?_ ?_ _) | omega | (simp; omega) | (simp; done)))
  have hb1 : Blk w1 bx 25 #[.int .i64 (g.S : Int), .int .i64 (g.C : Int), .int .i64 (g.H : Int), .slice nA nn nc, .slice (some ⟨gb, go, none⟩) g.S gc] := by rw [hw1, hbx]; exact Blk.alloc (heap_alloc_new w _) _
  have hb2 : Blk w1 by' 27 #[.slice (some ⟨b3, o3, none⟩) g.S ic, .slice (some ⟨cb, co, none⟩) g.S cc, .slice (some ⟨rb, ro, none⟩) g.S rc] := by
    have e2 := heap_alloc_new (w.alloc (.cells #[.int .i64 (g.S : Int), .int .i64 (g.C : Int), .int .i64 (g.H : Int), .slice nA nn nc, .slice (some ⟨gb, go, none⟩) g.S gc] 25)) (.cells #[.slice (some ⟨b3, o3, none⟩) g.S ic, .slice (some ⟨cb, co, none⟩) g.S cc, .slice (some ⟨rb, ro, none⟩) g.S rc] 27)
    simp only [World.size_alloc] at e2
    rw [hw1, hby, hbx]
    exact e2
  rw [← hw1, ← hbx, ← hby]
  clear hw1 hbx hby
  refine (KV.out _ hi1).mono ?_
  rintro e w2 ⟨rfl, hB2⟩
  have HF2 := Lib.hid (And.intro (below3 hi1 hB2 (Nat.le_refl _)) (And.intro (hb1.below hB2 hb1.lt) (hb2.below hB2 hb2.lt)))
  clear hB2 hi1 hb1 hb2 KV
  simp only [show verifyN true = 0 from rfl]
  have hbk := HF2.out.2.1
  have e0 := hbk.cell 0
  have e1 := hbk.cell 1
  have e2 := hbk.cell 2
  have e3 := hbk.cell 3
  have e4 := hbk.cell 4
  have ze := hbk.lt
  simp only [List.getElem?_toArray, List.getElem?_cons_zero, List.getElem?_cons_succ] at e0 e1 e2 e3 e4
  clear hbk
  go_wp2_with fail
  refine (KH.out _).mono ?_
  rintro e w3 ⟨rfl, hB3⟩
  have HF3 := Lib.hid (And.intro (below3 HF2.out.1 hB3 (Nat.le_refl _)) (And.intro (HF2.out.2.1.below hB3 HF2.out.2.1.lt) (HF2.out.2.2.below hB3 HF2.out.2.2.lt)))
  clear hB3 HF2 KH e0 e1 e2 e3 e4 ze
  have hbk := HF3.out.2.1
  have e0 := hbk.cell 0
  have e1 := hbk.cell 1
  have e2 := hbk.cell 2
  have e3 := hbk.cell 3
  have e4 := hbk.cell 4
  have ze := hbk.lt
  simp only [List.getElem?_toArray, List.getElem?_cons_zero, List.getElem?_cons_succ] at e0 e1 e2 e3 e4
  clear hbk
  go_wp2_with fail
  refine (KS.out _ HF3.out.1).mono ?_
  rintro e w4 ⟨rfl, hB4⟩
  have HF4 := Lib.hid (And.intro (below3 HF3.out.1 hB4 (Nat.le_refl _)) (And.intro (HF3.out.2.1.below hB4 HF3.out.2.1.lt) (HF3.out.2.2.below hB4 HF3.out.2.2.lt)))
  clear hB4 HF3 KS e0 e1 e2 e3 e4 ze
  have hbk := HF4.out.2.1
  have e0 := hbk.cell 0
  have e1 := hbk.cell 1
  have e2 := hbk.cell 2
  have e3 := hbk.cell 3
  have e4 := hbk.cell 4
  have ze := hbk.lt
  simp only [List.getElem?_toArray, List.getElem?_cons_zero, List.getElem?_cons_succ] at e0 e1 e2 e3 e4
  clear hbk
  have hbk := HF4.out.2.2
  have o0 := hbk.cell 0
  have o1 := hbk.cell 1
  have o2 := hbk.cell 2
  have zo := hbk.lt
  simp only [List.getElem?_toArray, List.getElem?_cons_zero, List.getElem?_cons_succ] at o0 o1 o2
  clear hbk
  have ci : w4.cell? ⟨b3, o3 + s, none⟩ = some (.bool false) := (HF4.out.1.cell (p := ⟨b3, o3 + s, none⟩) HCI.out.1).trans HCI.out.2
  have zi := block_of_cell ci
  dsimp only at zi
  go_wp2_with fail
  refine (KP.out _ HF4.out.1).mono ?_
  rintro e w5 ⟨A1, k1, A2, k2, k, rfl, hfe, hB5⟩
  have HF5 := Lib.hid (And.intro hfe (below3 HF4.out.1 hB5 (Nat.le_refl _)))
  clear hB5 hfe HF4 KP e0 e1 e2 e3 e4 ze o0 o1 o2 zo ci zi
  go_wp2
  refine bodyPost_ret (v := .tuple #[.slice A1 k k1, .slice A2 k k2, .int .i64 0]) ?_ rfl ?_
  · simp [results, Try.results30, go_sem]
  · exact ⟨A1, k1, A2, k2, k, rfl, HF5.out⟩
end Go.Proofs.Ytalngalikblgkaa
