/- keep: answer. -/
import Derived.Test.YtalngalikblgkaaKpFa

set_option linter.unusedSimpArgs false
set_option linter.unusedVariables false
namespace Go.Proofs.Ytalngalikblgkaa
open Go.RowKit

/-- The first of the first k elements with q that has the least rank of these, or -1. -/
def bsF (q : Int → Bool) (rk : Int → Int) (l : List Int) : Nat → Int
  | 0 => -1
  | k + 1 => if (q (l.getD k 0) && (bsF q rk l k == -1 || decide (rk (l.getD k 0) < rk (l.getD (bsF q rk l k).toNat 0)))) = true then (k : Int) else bsF q rk l k
theorem bsF_spec (q : Int → Bool) (rk : Int → Int) (l : List Int) (k : Nat) : (bsF q rk l k = -1 ∧ ∀ j < k, q (l.getD j 0) = false) ∨ ∃ b < k, bsF q rk l k = (b : Int) ∧ q (l.getD b 0) = true ∧ ∀ j < k, q (l.getD j 0) = true → rk (l.getD b 0) ≤ rk (l.getD j 0) := by
  induction k with
  | zero => exact Or.inl ⟨rfl, fun j h => absurd h (by omega)⟩
  | succ k ih =>
    unfold bsF
    cases hq : q (l.getD k 0) with
    | false =>
      rw [if_neg (by simp)]
      rcases ih with ⟨e, h⟩ | ⟨b, hb, e, h1, h2⟩
      · exact Or.inl ⟨e, fun j hj => by
          rcases Nat.lt_succ_iff_lt_or_eq.1 hj with h3 | h3
          · exact h j h3
          · rw [h3]; exact hq⟩
      · exact Or.inr ⟨b, by omega, e, h1, fun j hj h4 => by
          rcases Nat.lt_succ_iff_lt_or_eq.1 hj with h3 | h3
          · exact h2 j h3 h4
          · rw [h3, hq] at h4; cases h4⟩
    | true =>
      rcases ih with ⟨e, h⟩ | ⟨b, hb, e, h1, h2⟩
      · rw [e, if_pos (by simp)]
        exact Or.inr ⟨k, by omega, rfl, hq, fun j hj h4 => by
          rcases Nat.lt_succ_iff_lt_or_eq.1 hj with h3 | h3
          · rw [h j h3] at h4; cases h4
          · rw [h3]; exact Int.le_refl _⟩
      · rw [e, Int.toNat_natCast, beq_eq_false_iff_ne.2 (show (b : Int) ≠ -1 by omega)]
        by_cases hlt : rk (l.getD k 0) < rk (l.getD b 0)
        · rw [if_pos (by rw [decide_eq_true hlt]; rfl)]
          exact Or.inr ⟨k, by omega, rfl, hq, fun j hj h4 => by
            rcases Nat.lt_succ_iff_lt_or_eq.1 hj with h3 | h3
            · have := h2 j h3 h4; omega
            · rw [h3]; exact Int.le_refl _⟩
        · rw [if_neg (by rw [decide_eq_false hlt]; decide)]
          exact Or.inr ⟨b, by omega, rfl, h1, fun j hj h4 => by
            rcases Nat.lt_succ_iff_lt_or_eq.1 hj with h3 | h3
            · exact h2 j h3 h4
            · rw [h3]; omega⟩
def ansF (g : Gm) (inn : List Bool) (rnk : List Int) (s u : Nat) : Int := bsF (fun x => !isInB inn x) (rankB rnk) (subL g s u) g.H
def anPhi (c8 : Value) (x b : Int) (bn lb lo H cp : Nat) (rx ry y : Int) (ibv g1 e lt : Bool) : Nat → Value → World → (Nat → Nat) → Prop
  | 0, v, _, _ => v = c8
  | 1, v, _, _ => v = .int .i64 x
  | 2, v, _, _ => v = .bool ibv
  | 3, v, _, _ => v = .bool g1
  | 4, v, _, _ => v = .bool g1
  | 5, v, _, _ => g1 = true → v = .int .i64 b
  | 6, v, _, _ => g1 = true → v = .bool e
  | 7, v, _, _ => (g1 = true → v = .bool e) ∧ (g1 = false → v = undef)
  | 8, v, _, _ => g1 = true ∧ e = false → v = c8
  | 9, v, _, _ => g1 = true ∧ e = false → v = .int .i64 x
  | 10, v, _, _ => g1 = true ∧ e = false → v = .int .i64 rx
  | 11, v, _, _ => g1 = true ∧ e = false → v = c8
  | 12, v, _, _ => g1 = true ∧ e = false → v = .slice (some ⟨lb, lo, none⟩) H cp
  | 13, v, _, _ => g1 = true ∧ e = false → v = .int .i64 b
  | 14, v, _, _ => g1 = true ∧ e = false → v = .pointer (some ⟨lb, lo + bn, none⟩)
  | 15, v, _, _ => g1 = true ∧ e = false → v = .int .i64 y
  | 16, v, _, _ => g1 = true ∧ e = false → v = .int .i64 ry
  | 17, v, _, _ => g1 = true ∧ e = false → v = .bool lt
  | 18, v, _, _ => g1 = true → v = .bool (e || lt)
  | 19, v, _, _ => v = .bool (g1 && (e || lt))
  | _, _, _, _ => True
theorem anPhi_w {c8 : Value} {x b : Int} {bn lb lo H cp : Nat} {rx ry y : Int} {ibv g1 e lt : Bool} {j : Nat} {v : Value} {W W' : World} {γ γ' : Nat → Nat} (h : anPhi c8 x b bn lb lo H cp rx ry y ibv g1 e lt j v W γ) : anPhi c8 x b bn lb lo H cp rx ry y ibv g1 e lt j v W' γ' := by
  unfold anPhi at h ⊢
  split at h <;> first | exact h | trivial
set_option maxRecDepth 100000 in
set_option maxHeartbeats 4000000 in
theorem answer_any (nA : Option Addr) (nn nc gb go gc ib io ic cb co cc rb ro rc : Nat) (g : Gm) (inn : List Bool) (rnk : List Int) (s u : Nat) (w : World) (hin : GmIn w w.heap.size ⟨nA, some ⟨gb, go, none⟩, nn, nc, g.S, gc⟩ g) (ok : GmOk g) (hI : Rd w w.heap.size 1 encB (some ⟨ib, io, none⟩) g.S inn) (hR : Rd w w.heap.size 1 encI (some ⟨rb, ro, none⟩) g.S rnk) (hs : s < g.S) (hu : u < g.C) :
    Calls Try.prog 77 #[.agg #[.int .i64 (g.S : Int), .int .i64 (g.C : Int), .int .i64 (g.H : Int), .slice nA nn nc, .slice (some ⟨gb, go, none⟩) g.S gc, .slice (some ⟨ib, io, none⟩) g.S ic, .slice (some ⟨cb, co, none⟩) g.S cc, .slice (some ⟨rb, ro, none⟩) g.S rc], .int .i64 (s : Int), .int .i64 (u : Int)] w fun e w' => e = .returned (.int .i64 (ansF g inn rnk s u)) ∧ Below w.heap.size w w' := by
  have KA := Lib.hid (fun W (h : Below w.heap.size w W) => after_any nA (some ⟨gb, go, none⟩) nn nc g.S gc g s u W (hin.next' h) ok hs hu)
  have KI0 := Lib.hid (fun (x : Int) W (h : Below w.heap.size w W) (hx : -1 ≤ x ∧ x < g.S) => isIn_any g.S g.C g.H nA (some ⟨gb, go, none⟩) (some ⟨ib, io, none⟩) (some ⟨cb, co, none⟩) (some ⟨rb, ro, none⟩) nn nc g.S gc g.S ic g.S cc g.S rc inn x W (hI.next h) hx)
  have KR0 := Lib.hid (fun (x : Int) W (h : Below w.heap.size w W) (hx : -1 ≤ x ∧ x < g.S) => rank_any g.S g.C g.H nA (some ⟨gb, go, none⟩) (some ⟨ib, io, none⟩) (some ⟨cb, co, none⟩) (some ⟨rb, ro, none⟩) nn nc g.S gc g.S ic g.S cc g.S rc rnk x W (hR.next h) hx)
  have HSB : Hid (∀ x ∈ subL g s u, -1 ≤ x ∧ x < g.S) := Lib.hid (fun x hx => sub_bd ok hx)
  have HSL : Hid ((subL g s u).length = g.H) := Lib.hid (sub_len ok hs hu)
  have hh16 := ok.h1
  unfold ansF
  obtain ⟨sl, hsl⟩ : ∃ z, z = subL g s u := ⟨_, rfl⟩
  rw [← hsl] at KA HSB HSL ⊢
  obtain ⟨res, hres⟩ : ∃ z, z = bsF (fun x => !isInB inn x) (rankB rnk) sl g.H := ⟨_, rfl⟩
  have HRES := Lib.hid hres
  rw [← hres]
  clear hin ok hI hR hs hu hsl hres
  go_enter Try.func77, Try.ntmps77
  go_wp2_with fail
  obtain ⟨bx, hbx⟩ : ∃ z, z = w.heap.size := ⟨_, rfl⟩
  obtain ⟨w1, hw1⟩ : ∃ z, z = w.alloc (.cells #[.int .i64 (g.S : Int), .int .i64 (g.C : Int), .int .i64 (g.H : Int), .slice nA nn nc, .slice (some ⟨gb, go, none⟩) g.S gc, .slice (some ⟨ib, io, none⟩) g.S ic, .slice (some ⟨cb, co, none⟩) g.S cc, .slice (some ⟨rb, ro, none⟩) g.S rc] 92) := ⟨_, rfl⟩
  have hi1 : Below w.heap.size w w1 := by rw [hw1]; exact (Below.refl _ _).alloc (Nat.le_refl _) _
  have hb1 : Blk w1 bx 92 #[.int .i64 (g.S : Int), .int .i64 (g.C : Int), .int .i64 (g.H : Int), .slice nA nn nc, .slice (some ⟨gb, go, none⟩) g.S gc, .slice (some ⟨ib, io, none⟩) g.S ic, .slice (some ⟨cb, co, none⟩) g.S cc, .slice (some ⟨rb, ro, none⟩) g.S rc] := by rw [hw1, hbx]; exact heap_alloc_new w _
  rw [← hw1, ← hbx]
  clear hw1 hbx
  refine (KA.out _ hi1).mono ?_
  rintro e0 w2 ⟨A9, cp, rfl, hB2, hrd⟩
  have HL2 := Lib.hid (below3 hi1 hB2 (Nat.le_refl _))
  have HBX := Lib.hid (hb1.below hB2 hb1.lt)
  have HRD := Lib.hid (hrd.next hB2)
  clear hi1 hb1 hB2 hrd KA
  go_wp2
  go_loopw [8, 18] (fun v i wr => ∃ k : Nat, k ≤ g.H ∧ i = .int .i64 k ∧ v = .int .i64 (bsF (fun x => !isInB inn x) (rankB rnk) sl k) ∧ Hid (Below w2.heap.size w2 wr)) (fun _ i _ => g.H - (intOf i).toNat)
  case atStart => exact ⟨0, by omega, rfl, rfl, Lib.hid (Below.refl _ _)⟩
  case round =>
    obtain ⟨k, hk, rfl, rfl, HW⟩ := hrel
    by_cases hlt : k < g.H
    · obtain ⟨lb, lo, x, e1, hh9, hhx, hhc⟩ := (HRD.out.next HW.out).at_ hlt
      have hxb := HSB.out x (List.mem_of_getElem? hhx)
      have hxd : sl.getD k 0 = x := by rw [List.getD_eq_getElem?_getD, hhx]; rfl
      obtain ⟨b, hb⟩ : ∃ z, z = bsF (fun x => !isInB inn x) (rankB rnk) sl k := ⟨_, rfl⟩
      have HSP := bsF_spec (fun x => !isInB inn x) (rankB rnk) sl k
      have HNEXT : Hid (bsF (fun x => !isInB inn x) (rankB rnk) sl (k + 1) = if ((!isInB inn x) && (b == -1 || decide (rankB rnk x < rankB rnk (sl.getD b.toNat 0)))) = true then (k : Int) else b) := Lib.hid (by
        rw [show bsF (fun x => !isInB inn x) (rankB rnk) sl (k + 1) = if ((!isInB inn (sl.getD k 0)) && (bsF (fun x => !isInB inn x) (rankB rnk) sl k == -1 || decide (rankB rnk (sl.getD k 0) < rankB rnk (sl.getD (bsF (fun x => !isInB inn x) (rankB rnk) sl k).toNat 0)))) = true then (k : Int) else bsF (fun x => !isInB inn x) (rankB rnk) sl k from rfl, hxd, ← hb])
      rw [← hb] at HSP ⊢
      obtain ⟨bn, hbn⟩ : ∃ z, z = b.toNat := ⟨_, rfl⟩
      rw [← hbn] at HNEXT
      obtain ⟨y, hy⟩ : ∃ z, z = sl.getD bn 0 := ⟨_, rfl⟩
      rw [← hy] at HNEXT
      obtain ⟨ibv, hib⟩ : ∃ z, z = isInB inn x := ⟨_, rfl⟩
      obtain ⟨rx, hrx⟩ : ∃ z, z = rankB rnk x := ⟨_, rfl⟩
      obtain ⟨ry, hry⟩ : ∃ z, z = rankB rnk y := ⟨_, rfl⟩
      rw [← hib, ← hrx, ← hry] at HNEXT
      obtain ⟨g1, hg1⟩ : ∃ z, z = !ibv := ⟨_, rfl⟩
      obtain ⟨e, he⟩ : ∃ z, z = (b == -1) := ⟨_, rfl⟩
      obtain ⟨lt, hltd⟩ : ∃ z, z = decide (rx < ry) := ⟨_, rfl⟩
      rw [← hg1, ← he, ← hltd] at HNEXT
      have HG1 := Lib.hid hg1
      have HE := Lib.hid he
      have HLT := Lib.hid hltd
      have HBN : Hid (e = false → 0 ≤ b ∧ b < (g.H : Int) ∧ b.toNat = bn) := Lib.hid (fun h => by
        rcases HSP with ⟨h1, _⟩ | ⟨b0, h0, h1, _⟩
        · rw [he, h1] at h; cases h
        · omega)
      have HCY : Hid (e = false → lb < wr.heap.size ∧ wr.cell? ⟨lb, lo + bn, none⟩ = some (.int .i64 y)) := Lib.hid (fun h => by
        have h1 := HBN.out h
        obtain ⟨lb2, lo2, y2, e2, hh2, hhy, hhc2⟩ := (HRD.out.next HW.out).at_ (show bn < g.H by omega)
        rw [e1] at e2
        obtain ⟨rfl, rfl⟩ : lb = lb2 ∧ lo = lo2 := by simpa using e2
        have : y = y2 := by rw [hy, List.getD_eq_getElem?_getD, hhy]; rfl
        rw [this]
        exact ⟨hh2, cellI hhc2⟩)
      have hyb : e = false → -1 ≤ y ∧ y < (g.S : Int) := fun h => by
        have h1 := HBN.out h
        rw [hy, List.getD_eq_getElem?_getD, List.getElem?_eq_getElem (show bn < sl.length by rw [HSL.out]; omega)]
        exact HSB.out _ (List.getElem_mem _)
      have KI := Lib.hid (fun W (h : Below wr.heap.size wr W) => KI0.out x W (below3 (below3 HL2.out HW.out (Nat.le_refl _)) h (Nat.le_refl _)) hxb)
      have KX := Lib.hid (fun W (h : Below wr.heap.size wr W) => KR0.out x W (below3 (below3 HL2.out HW.out (Nat.le_refl _)) h (Nat.le_refl _)) hxb)
      have KY0 := Lib.hid (fun W (h : Below wr.heap.size wr W) (h9 : e = false) => KR0.out y W (below3 (below3 HL2.out HW.out (Nat.le_refl _)) h (Nat.le_refl _)) (hyb h9))
      rw [← hib] at KI
      rw [← hrx] at KX
      rw [← hry] at KY0
      have ch := cellI hhc
      have zh := block_of_cell ch
      dsimp only at zh
      have HBW := Lib.hid (HBX.out.below HW.out HBX.out.lt)
      have hk0 : (0 : Int) ≤ (k : Int) := by omega
      have hkn : (k : Int) < (g.H : Int) := by omega
      subst e1
      clear hhx hhc hh9 hxb hxd hb HSP hbn hy hib hrx hry hg1 he hltd hyb
      go_wp2
      clear ch zh
      refine wp_region_free10 19 (by kernel_rfl) [some 23, some 24, some 25, some 26, some 27, some 28, some 29, some 30, some 31, some 32, some 33, some 34, some 35, some 36, some 37, some 38, some 39, some 40, some 41, some 42] [[], [], [0, 1], [2], [3, 2], [4], [5, 4], [6, 4, 4], [7], [7], [8, 9, 7, 7], [7], [7], [7], [12, 13, 7], [14, 7], [11, 15, 10, 7], [10, 16, 7], [7, 17, 4], [4, 18]] [(3, .pointer (some ⟨bx, 0, none⟩)), (10, .int .i64 x), (8, .int .i64 b), (7, .slice (some ⟨lb, lo, none⟩) g.H cp)] (fun W _ => Below wr.heap.size wr W) (anPhi (.agg #[.int .i64 (g.S : Int), .int .i64 (g.C : Int), .int .i64 (g.H : Int), .slice nA nn nc, .slice (some ⟨gb, go, none⟩) g.S gc, .slice (some ⟨ib, io, none⟩) g.S ic, .slice (some ⟨cb, co, none⟩) g.S cc, .slice (some ⟨rb, ro, none⟩) g.S rc]) x b bn lb lo g.H cp rx ry y ibv g1 e lt) (fun _ _ _ => True) (by kernel_rfl) (by kernel_rfl) rfl (by kernel_rfl) ?_ ?_ ⟨fun _ => 0, (Below.refl _ _).drew, fun i _ => trivial⟩ ?_ ?_
      · intro z hz
        simp only [List.mem_cons, List.mem_nil_iff, or_false] at hz
        rcases hz with rfl | rfl | rfl | rfl
        all_goals exact ⟨by kernel_rfl, rfl⟩
      · intro i v W γ hi h
        rcases i with _ | _ | _ | _ | _ | _ | _ | _ | _ | _ | _ | _ | _ | _ | _ | _ | _ | _ | _ | _ | i
        all_goals first | exact h | (simp at hi)
      · refine ⟨?_, ?_, ?_, ?_, ?_, ?_, ?_, ?_, ?_, ?_, ?_, ?_, ?_, ?_, ?_, ?_, ?_, ?_, ?_, ?_, trivial⟩
        all_goals
          intro a9 W γ ev hcc hff hfx hR hψ hpre
          simp only [List.mem_cons, List.mem_nil_iff, or_false, forall_eq, forall_eq_or_imp] at hfx
          obtain ⟨f0, f1, f2, f3⟩ := hfx
          have HR := Lib.hid hR
          clear hR
        · refine ⟨fun hg K hK => ?_, trivial⟩
          clear hg
          have hbk := HBW.out.below (show Below wr.heap.size wr W from HR.out) HBW.out.lt
          have hzg := hbk.lt
          have e0 := hbk.cell 0
          have e1 := hbk.cell 1
          have e2 := hbk.cell 2
          have e3 := hbk.cell 3
          have e4 := hbk.cell 4
          have e5 := hbk.cell 5
          have e6 := hbk.cell 6
          have e7 := hbk.cell 7
          simp only [List.getElem?_toArray, List.getElem?_cons_zero, List.getElem?_cons_succ] at e0 e1 e2 e3 e4 e5 e6 e7
          clear hbk
          clear hpre hψ
          go_simp
          exact hK _ _ γ HR.out (fun _ _ _ _ h => h) (fun _ _ _ h => h) rfl
        · refine ⟨fun hg K hK => ?_, trivial⟩
          clear hg
          clear hpre hψ
          go_simp
          exact hK _ _ γ HR.out (fun _ _ _ _ h => h) (fun _ _ _ h => h) rfl
        · refine ⟨fun hg K hK => ?_, trivial⟩
          clear hg
          have q0 : ev (.tmp 23) = _ := hpre 0 (by decide)
          have q1 : ev (.tmp 24) = _ := hpre 1 (by decide)
          have C := Lib.hid (KI.out W (show Below wr.heap.size wr W from HR.out))
          have HRW9 : Hid (Below wr.heap.size wr W) := HR
          clear hpre hψ
          go_simp
          refine C.out.mono ?_
          rintro e9 w5 ⟨rfl, hB5⟩
          exact hK _ w5 γ (below3 HRW9.out hB5 (Nat.le_refl _)) (fun j u _ _ h => anPhi_w h) (fun _ _ _ h => h) rfl
        · refine ⟨fun hg K hK => ?_, trivial⟩
          clear hg
          have q0 : ev (.tmp 25) = _ := hpre 2 (by decide)
          have HGB := HG1
          clear hpre hψ
          go_simp
          exact hK _ _ γ HR.out (fun _ _ _ _ h => h) (fun _ _ _ h => h) (by rw [HGB.out]; rfl)
        · refine ⟨fun hg K hK => ?_, trivial⟩
          clear hg
          have q0 : ev (.tmp 26) = _ := hpre 3 (by decide)
          clear hpre hψ
          go_simp
          exact hK _ _ γ HR.out (fun _ _ _ _ h => h) (fun _ _ _ h => h) rfl
        · refine ⟨fun hg K hK => ?_, fun hg h => absurd ((show left _ ev 4 = .bool g1 from hpre 4 (by decide)).trans (by rw [h])) hg⟩
          have hg1 : g1 = true := by have h := Eq.trans (Eq.symm (show left _ ev 4 = .bool g1 from hpre 4 (by decide))) hg; simpa using h
          clear hg
          clear hpre hψ
          go_simp
          exact hK _ _ γ HR.out (fun _ _ _ _ h => h) (fun _ _ _ h => h) (fun _ => rfl)
        · refine ⟨fun hg K hK => ?_, fun hg h => absurd ((show left _ ev 4 = .bool g1 from hpre 4 (by decide)).trans (by rw [h])) hg⟩
          have hg1 : g1 = true := by have h := Eq.trans (Eq.symm (show left _ ev 4 = .bool g1 from hpre 4 (by decide))) hg; simpa using h
          clear hg
          have q0 : ev (.tmp 28) = _ := hpre 5 (by decide) hg1
          have HEB := HE
          clear hpre hψ
          go_simp
          exact hK _ _ γ HR.out (fun _ _ _ _ h => h) (fun _ _ _ h => h) (fun _ => by rw [HEB.out])
        · refine ⟨fun hg K hK => ?_, fun hg => ⟨fun h => absurd ((show left _ ev 4 = .bool g1 from hpre 4 (by decide)).trans (by rw [h])) hg, fun _ => rfl⟩⟩
          have hg1 : g1 = true := by have h := Eq.trans (Eq.symm (show left _ ev 4 = .bool g1 from hpre 4 (by decide))) hg; simpa using h
          clear hg
          have q0 : ev (.tmp 29) = _ := hpre 6 (by decide) hg1
          clear hpre hψ
          go_simp
          exact hK _ _ γ HR.out (fun _ _ _ _ h => h) (fun _ _ _ h => h) ⟨fun _ => rfl, fun h => by rw [hg1] at h; cases h⟩
        · refine ⟨fun hg K hK => ?_, fun hg h => absurd (((hpre 7 (by decide)).1 h.1).trans (by rw [h.2])) hg⟩
          have hge : g1 = true ∧ e = false := by
            obtain ⟨h71, h72⟩ := hpre 7 (by decide)
            revert h71 h72
            cases g1
            · intro h71 h72
              exact absurd ((h72 rfl).symm.trans hg) (by simp [undef])
            · intro h71 h72
              have h := (h71 rfl).symm.trans hg
              exact ⟨rfl, by simpa using h⟩
          clear hg
          have hbk := HBW.out.below (show Below wr.heap.size wr W from HR.out) HBW.out.lt
          have hzg := hbk.lt
          have e0 := hbk.cell 0
          have e1 := hbk.cell 1
          have e2 := hbk.cell 2
          have e3 := hbk.cell 3
          have e4 := hbk.cell 4
          have e5 := hbk.cell 5
          have e6 := hbk.cell 6
          have e7 := hbk.cell 7
          simp only [List.getElem?_toArray, List.getElem?_cons_zero, List.getElem?_cons_succ] at e0 e1 e2 e3 e4 e5 e6 e7
          clear hbk
          clear hpre hψ
          go_simp
          exact hK _ _ γ HR.out (fun _ _ _ _ h => h) (fun _ _ _ h => h) (fun _ => rfl)
        · refine ⟨fun hg K hK => ?_, fun hg h => absurd (((hpre 7 (by decide)).1 h.1).trans (by rw [h.2])) hg⟩
          have hge : g1 = true ∧ e = false := by
            obtain ⟨h71, h72⟩ := hpre 7 (by decide)
            revert h71 h72
            cases g1
            · intro h71 h72
              exact absurd ((h72 rfl).symm.trans hg) (by simp [undef])
            · intro h71 h72
              have h := (h71 rfl).symm.trans hg
              exact ⟨rfl, by simpa using h⟩
          clear hg
          clear hpre hψ
          go_simp
          exact hK _ _ γ HR.out (fun _ _ _ _ h => h) (fun _ _ _ h => h) (fun _ => rfl)
        · refine ⟨fun hg K hK => ?_, fun hg h => absurd (((hpre 7 (by decide)).1 h.1).trans (by rw [h.2])) hg⟩
          have hge : g1 = true ∧ e = false := by
            obtain ⟨h71, h72⟩ := hpre 7 (by decide)
            revert h71 h72
            cases g1
            · intro h71 h72
              exact absurd ((h72 rfl).symm.trans hg) (by simp [undef])
            · intro h71 h72
              have h := (h71 rfl).symm.trans hg
              exact ⟨rfl, by simpa using h⟩
          clear hg
          have q0 : ev (.tmp 31) = _ := hpre 8 (by decide) hge
          have q1 : ev (.tmp 32) = _ := hpre 9 (by decide) hge
          have C := Lib.hid (KX.out W (show Below wr.heap.size wr W from HR.out))
          have HRW9 : Hid (Below wr.heap.size wr W) := HR
          clear hpre hψ
          go_simp
          refine C.out.mono ?_
          rintro e9 w5 ⟨rfl, hB5⟩
          exact hK _ w5 γ (below3 HRW9.out hB5 (Nat.le_refl _)) (fun j u _ _ h => anPhi_w h) (fun _ _ _ h => h) (fun _ => rfl)
        · refine ⟨fun hg K hK => ?_, fun hg h => absurd (((hpre 7 (by decide)).1 h.1).trans (by rw [h.2])) hg⟩
          have hge : g1 = true ∧ e = false := by
            obtain ⟨h71, h72⟩ := hpre 7 (by decide)
            revert h71 h72
            cases g1
            · intro h71 h72
              exact absurd ((h72 rfl).symm.trans hg) (by simp [undef])
            · intro h71 h72
              have h := (h71 rfl).symm.trans hg
              exact ⟨rfl, by simpa using h⟩
          clear hg
          have hbk := HBW.out.below (show Below wr.heap.size wr W from HR.out) HBW.out.lt
          have hzg := hbk.lt
          have e0 := hbk.cell 0
          have e1 := hbk.cell 1
          have e2 := hbk.cell 2
          have e3 := hbk.cell 3
          have e4 := hbk.cell 4
          have e5 := hbk.cell 5
          have e6 := hbk.cell 6
          have e7 := hbk.cell 7
          simp only [List.getElem?_toArray, List.getElem?_cons_zero, List.getElem?_cons_succ] at e0 e1 e2 e3 e4 e5 e6 e7
          clear hbk
          clear hpre hψ
          go_simp
          exact hK _ _ γ HR.out (fun _ _ _ _ h => h) (fun _ _ _ h => h) (fun _ => rfl)
        · refine ⟨fun hg K hK => ?_, fun hg h => absurd (((hpre 7 (by decide)).1 h.1).trans (by rw [h.2])) hg⟩
          have hge : g1 = true ∧ e = false := by
            obtain ⟨h71, h72⟩ := hpre 7 (by decide)
            revert h71 h72
            cases g1
            · intro h71 h72
              exact absurd ((h72 rfl).symm.trans hg) (by simp [undef])
            · intro h71 h72
              have h := (h71 rfl).symm.trans hg
              exact ⟨rfl, by simpa using h⟩
          clear hg
          clear hpre hψ
          go_simp
          exact hK _ _ γ HR.out (fun _ _ _ _ h => h) (fun _ _ _ h => h) (fun _ => rfl)
        · refine ⟨fun hg K hK => ?_, fun hg h => absurd (((hpre 7 (by decide)).1 h.1).trans (by rw [h.2])) hg⟩
          have hge : g1 = true ∧ e = false := by
            obtain ⟨h71, h72⟩ := hpre 7 (by decide)
            revert h71 h72
            cases g1
            · intro h71 h72
              exact absurd ((h72 rfl).symm.trans hg) (by simp [undef])
            · intro h71 h72
              have h := (h71 rfl).symm.trans hg
              exact ⟨rfl, by simpa using h⟩
          clear hg
          clear hpre hψ
          go_simp
          exact hK _ _ γ HR.out (fun _ _ _ _ h => h) (fun _ _ _ h => h) (fun _ => rfl)
        · refine ⟨fun hg K hK => ?_, fun hg h => absurd (((hpre 7 (by decide)).1 h.1).trans (by rw [h.2])) hg⟩
          have hge : g1 = true ∧ e = false := by
            obtain ⟨h71, h72⟩ := hpre 7 (by decide)
            revert h71 h72
            cases g1
            · intro h71 h72
              exact absurd ((h72 rfl).symm.trans hg) (by simp [undef])
            · intro h71 h72
              have h := (h71 rfl).symm.trans hg
              exact ⟨rfl, by simpa using h⟩
          clear hg
          have q0 : ev (.tmp 35) = _ := hpre 12 (by decide) hge
          have q1 : ev (.tmp 36) = _ := hpre 13 (by decide) hge
          have hb9 := HBN.out hge.2
          have i1 : (0 : Int) ≤ b := by omega
          have i2 : b < (g.H : Int) := by omega
          have i3 : b.toNat = bn := by omega
          clear hb9
          clear hpre hψ
          go_simp
          exact hK _ _ γ HR.out (fun _ _ _ _ h => h) (fun _ _ _ h => h) (fun _ => rfl)
        · refine ⟨fun hg K hK => ?_, fun hg h => absurd (((hpre 7 (by decide)).1 h.1).trans (by rw [h.2])) hg⟩
          have hge : g1 = true ∧ e = false := by
            obtain ⟨h71, h72⟩ := hpre 7 (by decide)
            revert h71 h72
            cases g1
            · intro h71 h72
              exact absurd ((h72 rfl).symm.trans hg) (by simp [undef])
            · intro h71 h72
              have h := (h71 rfl).symm.trans hg
              exact ⟨rfl, by simpa using h⟩
          clear hg
          have q0 : ev (.tmp 37) = _ := hpre 14 (by decide) hge
          have hcY := HCY.out hge.2
          have hca := ((show Below wr.heap.size wr W from HR.out).cell (p := ⟨lb, lo + bn, none⟩) hcY.1).trans hcY.2
          have hza : lb < W.heap.size := block_of_cell hca
          clear hcY
          clear hpre hψ
          go_simp
          exact hK _ _ γ HR.out (fun _ _ _ _ h => h) (fun _ _ _ h => h) (fun _ => rfl)
        · refine ⟨fun hg K hK => ?_, fun hg h => absurd (((hpre 7 (by decide)).1 h.1).trans (by rw [h.2])) hg⟩
          have hge : g1 = true ∧ e = false := by
            obtain ⟨h71, h72⟩ := hpre 7 (by decide)
            revert h71 h72
            cases g1
            · intro h71 h72
              exact absurd ((h72 rfl).symm.trans hg) (by simp [undef])
            · intro h71 h72
              have h := (h71 rfl).symm.trans hg
              exact ⟨rfl, by simpa using h⟩
          clear hg
          have q0 : ev (.tmp 34) = _ := hpre 11 (by decide) hge
          have q1 : ev (.tmp 38) = _ := hpre 15 (by decide) hge
          have C := Lib.hid (KY0.out W (show Below wr.heap.size wr W from HR.out) hge.2)
          have HRW9 : Hid (Below wr.heap.size wr W) := HR
          clear hpre hψ
          go_simp
          refine C.out.mono ?_
          rintro e9 w5 ⟨rfl, hB5⟩
          exact hK _ w5 γ (below3 HRW9.out hB5 (Nat.le_refl _)) (fun j u _ _ h => anPhi_w h) (fun _ _ _ h => h) (fun _ => rfl)
        · refine ⟨fun hg K hK => ?_, fun hg h => absurd (((hpre 7 (by decide)).1 h.1).trans (by rw [h.2])) hg⟩
          have hge : g1 = true ∧ e = false := by
            obtain ⟨h71, h72⟩ := hpre 7 (by decide)
            revert h71 h72
            cases g1
            · intro h71 h72
              exact absurd ((h72 rfl).symm.trans hg) (by simp [undef])
            · intro h71 h72
              have h := (h71 rfl).symm.trans hg
              exact ⟨rfl, by simpa using h⟩
          clear hg
          have q0 : ev (.tmp 33) = _ := hpre 10 (by decide) hge
          have q1 : ev (.tmp 39) = _ := hpre 16 (by decide) hge
          have HLB := HLT
          clear hpre hψ
          go_simp
          exact hK _ _ γ HR.out (fun _ _ _ _ h => h) (fun _ _ _ h => h) (fun _ => by rw [HLB.out])
        · refine ⟨fun hg K hK => ?_, fun hg h => absurd ((show left _ ev 4 = .bool g1 from hpre 4 (by decide)).trans (by rw [h])) hg⟩
          have hg1 : g1 = true := by have h := Eq.trans (Eq.symm (show left _ ev 4 = .bool g1 from hpre 4 (by decide))) hg; simpa using h
          clear hg
          have q0 : ev (.tmp 30) = _ := (hpre 7 (by decide)).1 hg1
          have q1 := hpre 17 (by decide)
          clear hpre hψ
          cases e
          · have q1 : ev (.tmp 40) = _ := q1 ⟨hg1, rfl⟩
            go_simp
            exact hK _ _ γ HR.out (fun _ _ _ _ h => h) (fun _ _ _ h => h) (fun _ => rfl)
          · clear q1
            go_simp
            exact hK _ _ γ HR.out (fun _ _ _ _ h => h) (fun _ _ _ h => h) (fun _ => rfl)
        · refine ⟨fun hg K hK => ?_, trivial⟩
          clear hg
          have q0 : ev (.tmp 27) = _ := hpre 4 (by decide)
          have q1 := hpre 18 (by decide)
          clear hpre hψ
          cases g1
          · clear q1
            go_simp
            exact hK _ _ γ HR.out (fun _ _ _ _ h => h) (fun _ _ _ h => h) rfl
          · have q1 : ev (.tmp 41) = _ := q1 rfl
            go_simp
            exact hK _ _ γ HR.out (fun _ _ _ _ h => h) (fun _ _ _ h => h) rfl
      · intro vs wy γ hvl hR hφ
        have q19 := hφ 19 (by decide)
        have HR := Lib.hid hR
        clear hφ hR
        match vs, hvl with
        | [y0, y1, y2, y3, y4, y5, y6, y7, y8, y9, y10, y11, y12, y13, y14, y15, y16, y17, y18, y19], _ =>
        simp only [List.getD_cons_zero, List.getD_cons_succ] at q19
        obtain rfl : y19 = _ := q19
        have HN : Hid (Below w2.heap.size w2 wy) := Lib.hid (below3 HW.out HR.out (Nat.le_refl _))
        clear HR
        simp [putAll]
        obtain ⟨cv, hcv⟩ : ∃ z, z = (g1 && (e || lt)) := ⟨_, rfl⟩
        rw [← hcv] at HNEXT ⊢
        clear hcv
        cases cv
        · go_wp2
          go_roundw
          case rel => exact ⟨k + 1, by omega, by go_num, by rw [HNEXT.out]; rfl, HN⟩
          case measure => simp [intOf]; omega
        · go_wp2
          go_roundw
          case rel => exact ⟨k + 1, by omega, by go_num, by rw [HNEXT.out]; rfl, HN⟩
          case measure => simp [intOf]; omega
    · obtain rfl : g.H = k := by omega
      rw [← HRES.out]
      go_wp2
      go_ret
      exact ⟨rfl, below3 HL2.out HW.out (Nat.le_refl _)⟩
end Go.Proofs.Ytalngalikblgkaa
