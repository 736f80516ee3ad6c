/- The reference's Live. -/
import Derived.Test.YtnngdcidopaabaaGreatDoorRefW
import Derived.Test.YtnngdcidopaabaaGreatDoorRefC
import Derived.StillTailTactics

set_option linter.unusedSimpArgs false
set_option linter.unusedVariables false
namespace Go.Proofs.YtnngdcidopaabaaGreatDoor
open Go.RowKit

theorem orTo_at (V W : List Bool) (n : Nat) (h : n < V.length) : (orTo V W n)[n]? = some (mk V n) := by
  unfold orTo
  rw [List.getElem?_map, List.getElem?_range h]
  simp
/-- A source, its bus as a natural number. -/
theorem src_nat {p : Plt} {s : Stt} {B : Nat} {L : List (LnkOf B)} (S : Sound p s B L) {k : Nat} {x : Src} (hx : p.srcs[k]? = some x) : ∃ c : Nat, x.bus = (c : Int) ∧ c < B ∧ x.bus.toNat = c := by
  obtain ⟨h0, h1⟩ := S.srcs x (List.mem_of_getElem? hx)
  exact ⟨x.bus.toNat, by omega, by omega, rfl⟩
set_option maxRecDepth 100000 in
set_option maxHeartbeats 8000000 in
theorem refLive_ok (p : Plt) (s : Stt) (B : Nat) (L : List (LnkOf B)) (S : Sound p s B L) (hsn : p.sn ≤ 24) (hln : p.ln ≤ 40) (w : World) (hc : checkState p s = 0) (hp : PltIn w w.heap.size p) (hs : SttIn w w.heap.size s) :
    Calls Tryz.prog 17 #[p.val, s.val] w fun e w' => ∃ g, e = .returned (.tuple #[.slice (some ⟨g, 0, none⟩) B B, .int .i64 0]) ∧ Below w.heap.size w w' ∧ w.heap.size ≤ g ∧ BoolB w' g (liveL p s L) := by
  have hsl : p.srcs.length = p.sn := hp.src.1
  have CS := Lib.hid (fun W hp hs => refCheckState_any p s W hp hs)
  rw [hc] at CS
  have FE := Lib.hid (fun k x hx W hp hs => refFeeds_any p s B L S k x hx W hp hs)
  have RE := Lib.hid (fun b hb W hp hs => refReach_any p s B L S hln b hb W hp hs)
  have HS := Lib.hid S
  have eB := S.buses
  have kB := S.small
  have b1 := S.pos
  have LO0 : Lo w p s w.heap.size (w.heap.size + 1) ((w.alloc (.cells (pBox p) 26)).alloc (.cells (sBox s) 29)) := by
    have hb : Below w.heap.size w ((w.alloc (.cells (pBox p) 26)).alloc (.cells (sBox s) 29)) := by (repeat' (first | (with_reducible exact Below.refl _ _) | (with_reducible assumption) | (with_reducible refine below_drewN ?_ _) | (with_reducible refine below_after (by assumption) ?_ ?_) | (with_reducible refine Below.drew ?_) | (with_reducible refine Below.alloc ?_ ?_ _) | (with_reducible refine Below.setCell ?_ ?_ _) | omega | (simp; omega) | (simp; done)))
    refine ⟨hb, hp.next hb, hs.next hb, Blk.alloc (heap_alloc_new w _) _, ?_⟩
    have := heap_alloc_new (w.alloc (.cells (pBox p) 26)) (.cells (sBox s) 29)
    rw [World.size_alloc] at this
    exact this
  unfold pBox sBox at LO0
  rw [eB] at LO0
  have HLO0 := Lib.hid LO0
  have HVL := Lib.hid (rlive_is S hsl)
  clear hp hs S hc LO0
  unfold Plt.val Stt.val at CS FE RE ⊢
  rw [eB] at CS FE RE ⊢
  go_enter Tryz.func17, Tryz.ntmps17
  go_wp2_with fail
  refine (CS.out _ HLO0.out.plt HLO0.out.stt).mono ?_
  rintro e w1 ⟨rfl, hB1⟩
  have HLO1 := Lib.hid (HLO0.out.next hB1)
  obtain ⟨p0, -, -, -⟩ := HLO1.out.pc
  rw [eB] at p0
  have m1 := run_makeBools B (by omega) w1
  have JW := Lib.hid (⟨(Below.refl _ _).alloc (Nat.le_refl _) _, made_bools w1 B⟩ : MR w1 w1.heap.size (noB B) (w1.alloc (.cells (Array.replicate B (.bool false)) 4)))
  clear hB1 HLO0 CS
  go_wp2
  obtain ⟨g, hg⟩ : ∃ x, w1.heap.size = x := ⟨_, rfl⟩
  have gle : w1.heap.size ≤ g := Nat.le_of_eq hg
  rw [hg] at JW ⊢
  have gle2 : w.heap.size ≤ g := by have := HLO1.out.low.size; omega
  clear m1 p0 hg
  go_loopw [8, 9, 10] (fun i _ _ wr => ∃ k : Nat, k ≤ p.sn ∧ i = .int .i64 k ∧ Hid (MR w1 g (rliveTo s p.srcs L p.ln k) wr)) (fun i _ _ _ => p.sn - (intOf i).toNat)
  case atStart => exact ⟨0, by omega, rfl, JW⟩
  case round =>
    clear JW
    obtain ⟨k, hk, rfl, HJ⟩ := hrel
    have HLr := Lib.hid (HLO1.out.next HJ.out.l0)
    obtain ⟨p0, p1, p2, p3⟩ := HLr.out.pc
    obtain ⟨s0, s1, s2, s3, s4, s5, s6⟩ := sBox_cells HLr.out.bs
    rw [eB] at p0
    by_cases hlt : k < p.sn
    · obtain ⟨b, off, x, e1, hb, hx, -⟩ := HLr.out.plt.src.at_ hlt
      obtain ⟨c, hcb, hcB, hcn⟩ := src_nat HS.out hx
      have FEk := Lib.hid (fun W hp hs => FE.out k x hx W hp hs)
      have REk := Lib.hid (fun W hp hs => RE.out c hcB W hp hs)
      obtain ⟨fv, hfv⟩ : ∃ u, feeds s k x = u := ⟨_, rfl⟩
      rw [hfv] at FEk
      obtain ⟨Vk, hVk⟩ : ∃ V, rliveTo s p.srcs L p.ln k = V := ⟨_, rfl⟩
      have hVl : Vk.length = B := by rw [← hVk, rliveTo_length]
      obtain ⟨Rl, hRl⟩ : ∃ V, reachL s L p.ln c = V := ⟨_, rfl⟩
      have hRll : Rl.length = B := by rw [← hRl, reachL_length]
      have hsucc : Hid (rliveTo s p.srcs L p.ln (k + 1) = if fv then orTo Vk Rl B else Vk) := by
        show rliveTo s p.srcs L p.ln (k + 1) = _
        rw [rliveTo_succ s p.srcs L p.ln k x hx, hfv, hVk, hcn, hRl]
      rw [hVk] at HJ
      rw [hRl] at REk
      have HX := Lib.hid hx
      have HE1 := Lib.hid e1
      have HCB := Lib.hid hcb
      have hk0 : (0 : Int) ≤ (k : Int) := by omega
      have hkn : (k : Int) < (p.sn : Int) := by omega
      clear hx e1 hfv hVk hRl hcb hcn
      go_wp2_with fail
      refine (FEk.out _ HLr.out.plt HLr.out.stt).mono ?_
      rintro e w2 ⟨rfl, hB2⟩
      have HJ2 := Lib.hid (HJ.out.next hB2)
      have HL2 := Lib.hid (HLr.out.next hB2)
      clear hB2 HJ HLr p0 p1 p2 p3 s0 s1 s2 s3 s4 s5 s6 FEk
      obtain ⟨p0, p1, p2, p3⟩ := HL2.out.pc
      obtain ⟨s0, s1, s2, s3, s4, s5, s6⟩ := sBox_cells HL2.out.bs
      rw [eB] at p0
      cases fv
      · go_wp2
        go_roundw
        case rel => exact ⟨k + 1, by omega, by go_num, by rw [hsucc.out]; exact HJ2.out⟩
        case measure => simp [intOf]; omega
      · obtain ⟨b', off', x', e1, -, hx', hcx⟩ := HL2.out.plt.src.at_ hlt
        obtain rfl : x = x' := by rw [HX.out] at hx'; exact Option.some.inj hx'
        obtain ⟨d0, -⟩ := Src.cells hcx
        rw [HE1.out] at e1
        cases e1
        rw [HE1.out] at p1
        rw [HCB.out] at d0
        rw [HE1.out] at REk
        clear hx' hcx
        go_wp2
        go_still_tail 8, (by kernel_rfl)
        change wpList _ _ _ _ _ w2.drew
        have HJ3 := Lib.hid (HJ2.out.next (Below.refl _ _).drew)
        have HL3 := Lib.hid (HL2.out.next (Below.refl _ _).drew)
        clear p0 p1 p2 p3 s0 s1 s2 s3 s4 s5 s6 d0 HJ2 HL2
        obtain ⟨w3, hw3⟩ : ∃ z, w2.drew = z := ⟨_, rfl⟩
        rw [hw3] at HJ3 HL3 ⊢
        clear hw3
        go_wp2_with fail
        refine (REk.out _ HL3.out.plt HL3.out.stt).mono ?_
        rintro e w4 ⟨gr, rfl, hB4, hgr, hR4⟩
        have HJ4 := Lib.hid (HJ3.out.next hB4)
        have HR4 := Lib.hid hR4
        have hne : gr ≠ g := Nat.ne_of_gt (Nat.lt_of_lt_of_le (Blk.lt HJ3.out.b1) hgr)
        clear hB4 hR4 HJ3 HL3 REk
        go_wp2
        have JQ : Hid (MR w1 g (orTo Vk Rl 0) w4 ∧ BoolB w4 gr Rl) := ⟨by rw [orTo_zero]; exact HJ4.out, HR4.out⟩
        clear HJ4 HR4
        obtain ⟨wr0, e0⟩ : ∃ x, x = wr := ⟨wr, rfl⟩
        subst e0
        go_loopw [10] (fun i wr => ∃ n : Nat, n ≤ B ∧ i = .int .i64 n ∧ Hid (MR w1 g (orTo Vk Rl n) wr ∧ BoolB wr gr Rl)) (fun i _ => B - (intOf i).toNat)
        case atStart => exact ⟨0, by omega, rfl, JQ⟩
        case round =>
          clear JQ
          obtain ⟨n, hn, rfl, HQ⟩ := hrel
          obtain ⟨p0, -, -, -⟩ := (HLO1.out.next HQ.out.1.l0).pc
          rw [eB] at p0
          by_cases hnl : n < B
          · have cu := HQ.out.1.b1.cell (orTo_at Vk Rl n (by omega))
            have cv := HQ.out.2.cell (getElem?_mk (V := Rl) (i := n) (by omega))
            have fu := Blk.frozen HQ.out.1.b1 n
            have J2 := HQ.out.1.set_ gle n (mk Vk n || mk Rl n)
            rw [orTo_succ] at J2
            have JN : Hid (MR w1 g (orTo Vk Rl (n + 1)) (wr.setCell ⟨g, n, none⟩ (.bool (mk Vk n || mk Rl n))) ∧ BoolB (wr.setCell ⟨g, n, none⟩ (.bool (mk Vk n || mk Rl n))) gr Rl) := ⟨J2, Blk.far HQ.out.2 hne _⟩
            obtain ⟨u, hu⟩ : ∃ u, mk Vk n = u := ⟨_, rfl⟩
            obtain ⟨v, hv⟩ : ∃ u, mk Rl n = u := ⟨_, rfl⟩
            rw [hu] at cu JN
            rw [hv] at cv JN
            have hn0 : (0 : Int) ≤ (n : Int) := by omega
            have hnn : (n : Int) < (B : Int) := by omega
            clear J2 hu hv HQ
            cases u
            · go_wp2
              go_roundw
              case rel => exact ⟨n + 1, by omega, by go_num, by simpa using JN⟩
              case measure => simp [intOf]; omega
            · go_wp2
              go_roundw
              case rel => exact ⟨n + 1, by omega, by go_num, by simpa using JN⟩
              case measure => simp [intOf]; omega
          · obtain rfl : B = n := by omega
            go_wp2
            go_roundw
            case rel => exact ⟨k + 1, by omega, by go_num, by rw [hsucc.out]; exact HQ.out.1⟩
            case measure => simp [intOf]; omega
    · obtain rfl : p.sn = k := by omega
      go_wp2
      exact bodyPost_ret (results_tmp2 rfl _ _ _) rfl ⟨_, rfl, below_after HJ.out.l0 (Nat.le_refl _) HLO1.out.low, gle2, by rw [← HVL.out]; exact HJ.out.b1⟩
end Go.Proofs.YtnngdcidopaabaaGreatDoor
