/- heat: openings. -/
import Derived.Test.YtldbciflpnhfpaaHtP

set_option linter.unusedSimpArgs false
set_option linter.unusedVariables false
namespace Go.Proofs.Ytldbciflpnhfpaa
open Go.RowKit

def opPhi (lb xb n u : Nat) (a o : Int) (l1 : List Int) : Nat → Value → World → (Nat → Nat) → Prop
  | 0, v, _, _ => v = .slice (some ⟨lb, 0, none⟩) n n
  | 1, v, _, _ => v = .pointer (some ⟨xb, 0, none⟩)
  | 2, v, _, _ => v = .int .i64 (u : Int)
  | 3, v, _, _ => v = .pointer (some ⟨lb, u, none⟩)
  | 4, v, _, _ => v = .int .i64 a
  | 5, v, _, _ => v = .pointer (some ⟨xb, 1, none⟩)
  | 6, v, _, _ => v = .int .i64 o
  | 7, v, _, _ => v = .int .i64 (a + o)
  | 8, v, _, _ => v = .pointer (some ⟨lb, u, none⟩)
  | 9, _, W, _ => Blk W lb 3 (intsA l1)
  | _, _, _, _ => True
theorem opPhi_w {lb xb n u : Nat} {a o : Int} {l1 : List Int} {j : Nat} {v : Value} {W W' : World} {γ γ' : Nat → Nat} (h9 : j ≠ 9) (h : opPhi lb xb n u a o l1 j v W γ) : opPhi lb xb n u a o l1 j v W' γ' := by
  unfold opPhi at h ⊢
  split at h <;> first | exact h | exact absurd rfl h9 | trivial
set_option maxRecDepth 100000 in
set_option maxHeartbeats 4000000 in
theorem openings_any (rA wA bA cA : Option Addr) (rn rc wn wc bn bc cn cc : Nat) (h : Hl) (w : World) (hin : HlIn w w.heap.size ⟨rA, wA, bA, cA, rn, wn, bn, cn⟩ h) (ok : HlOk h) :
    Calls Try.prog 74 #[.agg #[.slice rA rn rc, .slice wA wn wc, .slice bA bn bc, .slice cA cn cc]] w fun e w' => ∃ ob, e = .returned (.slice (some ⟨ob, 0, none⟩) bn bn) ∧ Blk w' ob 3 (intsA (opL bn h.brs)) ∧ w.heap.size ≤ ob ∧ Below w.heap.size w w' := by
  have HI := Lib.hid hin
  have OK := Lib.hid ok
  have HBN : Hid (h.brs.length = bn) := Lib.hid hin.br.1
  have hb16 : bn ≤ 16 := by rw [← HBN.out]; exact ok.b16
  have g1 : w.heap.size < w.heap.size + 1 := by omega
  have g2 : w.heap.size < w.heap.size + 1 + 1 := by omega
  have hmk := run_makeInts bn (by omega)
  clear hin ok
  go_enter Try.func74, Try.ntmps74
  go_wp2_with fail
  obtain ⟨bx, hbx⟩ : ∃ z, z = w.heap.size := ⟨_, rfl⟩
  obtain ⟨w1, hw1⟩ : ∃ z, z = w.alloc (.cells #[.slice rA rn rc, .slice wA wn wc, .slice bA bn bc, .slice cA cn cc] 28) := ⟨_, rfl⟩
  have BX : Hid (Blk w1 bx 28 #[.slice rA rn rc, .slice wA wn wc, .slice bA bn bc, .slice cA cn cc]) := Lib.hid (by rw [hw1, hbx]; exact heap_alloc_new w _)
  have Sw1 : Hid (w1.heap.size = bx + 1) := Lib.hid (by rw [hw1, hbx, World.size_alloc])
  have Zbx : Hid (w.heap.size ≤ bx) := Lib.hid (by rw [hbx]; exact Nat.le_refl _)
  have hBn : Below w.heap.size w w1 := by rw [hw1]; exact (Below.refl _ _).alloc (Nat.le_refl _) _
  rw [← hw1, ← hbx]
  have B0 : Hid (Below w.heap.size w w1) := Lib.hid hBn
  clear hw1 hbx hBn
  obtain ⟨lb, hlb⟩ : ∃ z, z = bx + 1 := ⟨_, rfl⟩
  obtain ⟨w2, hw2⟩ : ∃ z, z = w1.alloc (.cells (intsA (List.replicate bn 0)) 3) := ⟨_, rfl⟩
  have LB : Hid (Blk w2 lb 3 (intsA (List.replicate bn 0))) := Lib.hid (by have e2 := heap_alloc_new w1 (.cells (intsA (List.replicate bn 0)) 3); rw [Sw1.out] at e2; rw [hw2, hlb]; exact e2)
  have Sw2 : Hid (w2.heap.size = lb + 1) := Lib.hid (by rw [hw2, hlb, World.size_alloc, Sw1.out])
  have Zlb : Hid (w1.heap.size = lb) := Lib.hid (by rw [Sw1.out, hlb])
  have hBn : Below w1.heap.size w1 w2 := by rw [hw2]; exact (Below.refl _ _).alloc (Nat.le_refl _) _
  rw [← hw2, ← hlb]
  have B1 : Hid (Below w1.heap.size w1 w2) := Lib.hid hBn
  clear hw2 hlb hBn
  have HLB : Hid (w1.heap.size ≤ lb) := Lib.hid (Nat.le_of_eq Zlb.out)
  have HLOW : Hid (Below w1.heap.size w1 w2) := B1
  have HBR := Lib.hid (HI.out.br.below B0.out)
  have HL0 : Hid (Blk w2 lb 3 (intsA (opL bn (h.brs.take 0)))) := Lib.hid (by rw [List.take_zero, opL_nil]; exact LB.out)
  clear g1 g2 hmk
  go_loopw [13] (fun i wr => ∃ k : Nat, k ≤ bn ∧ i = .int .i64 ((k : Nat) : Int) ∧ Hid (Below w1.heap.size w1 wr ∧ Blk wr lb 3 (intsA (opL bn (h.brs.take k))))) (fun i _ => bn - (intOf i).toNat)
  case atStart => exact ⟨0, by omega, rfl, Lib.hid ⟨HLOW.out, HL0.out⟩⟩
  case round =>
    obtain ⟨k, hk, rfl, HW⟩ := hrel
    by_cases hlt : k < bn
    · obtain ⟨b, off, e1, hb, hx, c0, c1, c2⟩ := (HBR.out.below (HW.out.1.mono B0.out.size)).brAt hlt
      subst e1
      have hlt2 : k < h.brs.length := by rw [HBN.out]; exact hlt
      obtain ⟨h1, h2, h3⟩ := OK.out.brn k hlt2
      have hz := HW.out.1.size
      have HTK : Hid (h.brs.take (k + 1) = h.brs.take k ++ [h.br k]) := Lib.hid (by rw [List.take_add_one, hx]; rfl)
      have HO := Lib.hid (And.intro h2 (OK.out.op1 (b := (h.br k).up)))
      have zb : b < wr.heap.size := block_of_cell c0
      have hk0 : (0 : Int) ≤ (k : Int) := by omega
      have hkn : (k : Int) < (bn : Int) := by omega
      have g1 : wr.heap.size < wr.heap.size + 1 := by omega
      obtain ⟨x, hx9⟩ : ∃ z, z = h.br k := ⟨_, rfl⟩
      rw [← hx9] at HTK HO h1 c0 c1 c2
      obtain ⟨up, op, lk⟩ := x
      dsimp only at HO h1 c0 c1 c2
      clear hx hb h2 h3 hx9
      rcases h1 with ⟨e0, rfl⟩ | ⟨h4, h5⟩
      · clear e0
        go_wp2
        go_roundw
        case rel => exact ⟨k + 1, by omega, by go_num, Lib.hid ⟨HW.out.1.trans (by (repeat' (first | (with_reducible exact Below.refl _ _) | (with_reducible assumption) | (with_reducible refine below_drewN ?_ _) | (with_reducible refine below_after (by assumption) ?_ ?_) | (with_reducible refine Below.drew ?_) | (with_reducible refine Below.alloc ?_ ?_ _) | (with_reducible refine Below.setCell ?_ ?_ _) | omega | (simp; omega) | (simp; done)))), by rw [HTK.out, opL_skip rfl]; exact HW.out.2.below (by (repeat' (first | (with_reducible exact Below.refl _ _) | (with_reducible assumption) | (with_reducible refine below_drewN ?_ _) | (with_reducible refine below_after (by assumption) ?_ ?_) | (with_reducible refine Below.drew ?_) | (with_reducible refine Below.alloc ?_ ?_ _) | (with_reducible refine Below.setCell ?_ ?_ _) | omega | (simp; omega) | (simp; done)))) HW.out.2.lt⟩⟩
        case measure => simp [intOf]; omega
      · obtain ⟨u, rfl⟩ : ∃ u : Nat, up = (u : Int) := ⟨up.toNat, by omega⟩
        have d1 : ((u : Int) == -1) = false := beq_eq_false_iff_ne.2 (by omega)
        have d2 : ¬ ((u : Int) = -1) := by omega
        have hu : u < bn := by omega
        have hu0 : (0 : Int) ≤ (u : Int) := by omega
        have hun : (u : Int) < (bn : Int) := by omega
        go_wp2_with fail
        obtain ⟨xb, hxb⟩ : ∃ z, z = wr.heap.size := ⟨_, rfl⟩
        obtain ⟨wx, hwx⟩ : ∃ z, z = wr.alloc (.cells #[.int .i64 (u : Int), .int .i64 op, .int .i64 lk] 71) := ⟨_, rfl⟩
        have hBa : Below wr.heap.size wr wx := by rw [hwx]; exact (Below.refl _ _).alloc (Nat.le_refl _) _
        have hbx : Blk wx xb 71 #[.int .i64 (u : Int), .int .i64 op, .int .i64 lk] := by rw [hwx, hxb]; exact heap_alloc_new wr _
        have HX := Lib.hid (And.intro (below3 HW.out.1 hBa (Nat.le_refl _)) (And.intro hbx (HW.out.2.below hBa HW.out.2.lt)))
        have HXB : Hid (lb < xb) := Lib.hid (by rw [hxb]; exact HW.out.2.lt)
        rw [← hwx, ← hxb]
        clear hBa hbx hwx hxb c0 c1 c2 zb g1
        obtain ⟨a, ha⟩ : ∃ z, z = opS (u : Int) (h.brs.take k) := ⟨_, rfl⟩
        have HA9 : Hid ((opL bn (h.brs.take k))[u]? = some a) := Lib.hid (by rw [ha]; exact opL_get hu)
        have HNX : Hid ((opL bn (h.brs.take k)).set u (a + op) = opL bn (h.brs.take (k + 1))) := Lib.hid (by rw [HTK.out, ha]; exact opL_set (x := ⟨(u : Int), op, lk⟩) hu rfl)
        have HWR : Hid (IntKind.i64.wrap (a + op) = a + op) := Lib.hid (by
          have h1 := opS_le (b := (u : Int)) (l := h.brs.take k) (m := 100) (fun y hy => by
            obtain ⟨i, hi, rfl⟩ := mem_br (List.mem_of_mem_take hy)
            exact (OK.out.brn i hi).2.1.2)
          have h2 := (opS_ge (b := (u : Int)) (l := h.brs.take k) (fun y hy => OK.out.op0 y (List.mem_of_mem_take hy))).1
          have h3 : (h.brs.take k).length ≤ 16 := by rw [List.length_take]; have := OK.out.b16; omega
          have h4 := HO.out.1
          rw [ha]
          exact IntWalk.i64_in _ (by omega))
        clear ha
        refine wp_region_free10 9 (by kernel_rfl) [some 20, some 21, some 22, some 23, some 24, some 25, some 26, some 27, some 28, none] [[], [], [1], [0, 2], [3], [], [5], [4, 6], [0, 2, 0, 1, 2, 3, 4, 5, 6, 7], [8, 7, 0, 1, 2, 3, 4, 5, 6, 7]] [(3, .slice (some ⟨lb, 0, none⟩) bn bn), (5, .pointer (some ⟨xb, 0, none⟩))] (fun W γ => Below w1.heap.size w1 W ∧ Blk W xb 71 #[.int .i64 (u : Int), .int .i64 op, .int .i64 lk] ∧ (γ 0 = 0 → Blk W lb 3 (intsA (opL bn (h.brs.take k))))) (opPhi lb xb bn u a op ((opL bn (h.brs.take k)).set u (a + op))) (fun _ _ γ => γ 0 = 0) (by kernel_rfl) (by kernel_rfl) rfl (by kernel_rfl) ?_ ?_ ⟨fun _ => 0, ⟨HX.out.1.drew, HX.out.2.1.below (Below.refl _ _).drew HX.out.2.1.lt, fun _ => HX.out.2.2.below (Below.refl _ _).drew HX.out.2.2.lt⟩, fun i _ => rfl⟩ ?_ ?_
        · intro z hz
          simp only [List.mem_cons, List.mem_nil_iff, or_false] at hz
          rcases hz with rfl | rfl
          all_goals exact ⟨by kernel_rfl, rfl⟩
        · intro i v W γ hi h
          rcases i with _ | _ | _ | _ | _ | _ | _ | _ | _ | _ | i
          all_goals first | exact h | (simp at hi)
        · refine ⟨?_, ?_, ?_, ?_, ?_, ?_, ?_, ?_, ?_, ?_, trivial⟩
          all_goals
            intro a9 W γ ev hcc hff hfx hR hψ hpre
            simp only [List.mem_cons, List.mem_nil_iff, or_false, forall_eq, forall_eq_or_imp] at hfx
            obtain ⟨f0, f1⟩ := hfx
            have HR := Lib.hid hR
            clear hR
          · refine ⟨fun hg K hK => ?_, trivial⟩
            clear hg
            clear hpre hψ
            go_simp
            exact hK _ _ γ HR.out (fun _ _ _ _ h => h) (fun _ _ _ h => h) rfl
          · refine ⟨fun hg K hK => ?_, trivial⟩
            clear hg
            clear hpre hψ
            go_simp
            exact hK _ _ γ HR.out (fun _ _ _ _ h => h) (fun _ _ _ h => h) rfl
          · refine ⟨fun hg K hK => ?_, trivial⟩
            clear hg
            have q0 : ev (.tmp 21) = _ := hpre 1 (by decide)
            have hbk := HR.out.2.1
            have hzg := hbk.lt
            have e0 := hbk.cell 0
            simp only [List.getElem?_toArray, List.getElem?_cons_zero, List.getElem?_cons_succ] at e0
            clear hbk
            clear hpre hψ
            go_simp
            exact hK _ _ γ HR.out (fun _ _ _ _ h => h) (fun _ _ _ h => h) rfl
          · refine ⟨fun hg K hK => ?_, trivial⟩
            clear hg
            have q0 : ev (.tmp 20) = _ := hpre 0 (by decide)
            have q1 : ev (.tmp 22) = _ := hpre 2 (by decide)
            clear hpre hψ
            go_simp
            exact hK _ _ γ HR.out (fun _ _ _ _ h => h) (fun _ _ _ h => h) rfl
          · refine ⟨fun hg K hK => ?_, trivial⟩
            clear hg
            have q0 : ev (.tmp 23) = _ := hpre 3 (by decide)
            have hlb := HR.out.2.2 hψ
            have hzg := hlb.lt
            have ca := hlb.intAt HA9.out
            clear hlb
            clear hpre hψ
            go_simp
            exact hK _ _ γ HR.out (fun _ _ _ _ h => h) (fun _ _ _ h => h) rfl
          · refine ⟨fun hg K hK => ?_, trivial⟩
            clear hg
            clear hpre hψ
            go_simp
            exact hK _ _ γ HR.out (fun _ _ _ _ h => h) (fun _ _ _ h => h) rfl
          · refine ⟨fun hg K hK => ?_, trivial⟩
            clear hg
            have q0 : ev (.tmp 25) = _ := hpre 5 (by decide)
            have hbk := HR.out.2.1
            have hzg := hbk.lt
            have e1 := hbk.cell 1
            simp only [List.getElem?_toArray, List.getElem?_cons_zero, List.getElem?_cons_succ] at e1
            clear hbk
            clear hpre hψ
            go_simp
            exact hK _ _ γ HR.out (fun _ _ _ _ h => h) (fun _ _ _ h => h) rfl
          · refine ⟨fun hg K hK => ?_, trivial⟩
            clear hg
            have q0 : ev (.tmp 24) = _ := hpre 4 (by decide)
            have q1 : ev (.tmp 26) = _ := hpre 6 (by decide)
            have wa : IntKind.i64.wrap (a + op) = a + op := HWR.out
            clear hpre hψ
            go_simp
            exact hK _ _ γ HR.out (fun _ _ _ _ h => h) (fun _ _ _ h => h) rfl
          · refine ⟨fun hg K hK => ?_, trivial⟩
            clear hg
            have q0 : ev (.tmp 20) = _ := hpre 0 (by decide)
            have q1 : ev (.tmp 22) = _ := hpre 2 (by decide)
            clear hpre hψ
            go_simp
            exact hK _ _ γ HR.out (fun _ _ _ _ h => h) (fun _ _ _ h => h) rfl
          · refine ⟨fun hg K hK => ?_, trivial⟩
            clear hg
            have q0 : ev (.tmp 27) = _ := hpre 7 (by decide)
            have q1 : ev (.tmp 28) = _ := hpre 8 (by decide)
            have hlb := HR.out.2.2 hψ
            have zl := hlb.lt
            have fl9 := hlb.frozen
            have ca := hlb.intAt HA9.out
            have HR9 : Hid (Below w1.heap.size w1 W ∧ Blk W xb 71 #[.int .i64 (u : Int), .int .i64 op, .int .i64 lk] ∧ Blk W lb 3 (intsA (opL bn (h.brs.take k)))) := Lib.hid ⟨HR.out.1, HR.out.2.1, hlb⟩
            clear hpre hψ hlb
            go_simp
            refine hK undef _ (fun _ => 1) ⟨HR9.out.1.setCell HLB.out _, HR9.out.2.1.far (Nat.ne_of_gt HXB.out) _, fun e => by simp at e⟩ (fun j u _ hne h => opPhi_w hne h) (fun h => absurd rfl h) ?_
            have h9 := HR9.out.2.2.set_ u (.int .i64 (a + op))
            rw [intsA_set] at h9
            exact h9
        · intro vs wy γ hvl hR hφ
          have q9 := hφ 9 (by decide)
          have HR := Lib.hid hR
          clear hφ hR
          match vs, hvl with
          | [y0, y1, y2, y3, y4, y5, y6, y7, y8, y9], _ =>
          simp only [List.getD_cons_zero, List.getD_cons_succ] at q9
          have HN : Hid (Below w1.heap.size w1 wy ∧ Blk wy lb 3 (intsA (opL bn (h.brs.take (k + 1))))) := Lib.hid ⟨HR.out.1, by rw [← HNX.out]; exact q9⟩
          clear HR
          simp [putAll]
          go_wp2
          go_roundw
          case rel => exact ⟨k + 1, by omega, by go_num, HN⟩
          case measure => simp [intOf]; omega
    · obtain rfl : bn = k := by omega
      have HF : Hid (Blk wr lb 3 (intsA (opL bn h.brs))) := Lib.hid (by have h := HW.out.2; rw [List.take_of_length_le (by rw [HBN.out]; exact Nat.le_refl _)] at h; exact h)
      go_wp2
      go_ret
      exact ⟨lb, rfl, HF.out, Nat.le_trans B0.out.size HLB.out, below3 B0.out HW.out.1 (Nat.le_refl _)⟩
end Go.Proofs.Ytldbciflpnhfpaa
