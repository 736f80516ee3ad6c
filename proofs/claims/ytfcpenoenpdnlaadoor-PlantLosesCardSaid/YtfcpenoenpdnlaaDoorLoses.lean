/- The law on a worse plant. -/
import Derived.Test.YtfcpenoenpdnlaaDoorLosesP
import Derived.Deep.CutRange
import Derived.Test.YtfcpenoenpdnlaaDoorAwake
import Derived.Test.YtfcpenoenpdnlaaDoorLaw1
import Derived.Test.YtfcpenoenpdnlaaDoorCopy
import Derived.Test.YtfcpenoenpdnlaaDoorSame
namespace Go.Proofs.YtfcpenoenpdnlaaDoor
open Go.RowKit

set_option maxRecDepth 100000 in
set_option maxHeartbeats 8000000 in
theorem loses_any (p : Plt) (s : Stt) (x y : Int) (w : World) (hP : Pow w) (hp : PltIn w w.heap.size p) (hs : SttIn w w.heap.size s) :
    Calls Tryd.prog 4 #[p.val, s.val, .int .i64 x, .int .i64 y] w fun e w' => e = .returned (.bool true) ∧ Below w.heap.size w w' := by
  have AW := Lib.hid (fun W h => awake_any W h)
  have BIG := Lib.hid (fun W hp => big_any p W hp)
  have CS := Lib.hid (fun s W hp hs => checkState_any p s W hp hs)
  have LO0 : Lo w p s w.heap.size (w.heap.size + 1) ((w.alloc (.cells (pBox p) 26)).alloc (.cells (sBox s) 29)) := by
    have hb : Below w.heap.size w ((w.alloc (.cells (pBox p) 26)).alloc (.cells (sBox s) 29)) := by (repeat' (first | (with_reducible exact Below.refl _ _) | (with_reducible assumption) | (with_reducible refine below_drewN ?_ _) | (with_reducible refine below_after (by assumption) ?_ ?_) | (with_reducible refine Below.drew ?_) | (with_reducible refine Below.alloc ?_ ?_ _) | (with_reducible refine Below.setCell ?_ ?_ _) | omega | (simp; omega) | (simp; done)))
    refine ⟨hb, hp.next hb, hs.next hb, Blk.alloc (heap_alloc_new w _) _, ?_⟩
    have := heap_alloc_new (w.alloc (.cells (pBox p) 26)) (.cells (sBox s) 29)
    rw [World.size_alloc] at this
    exact this
  have HPow := Lib.hid hP
  have HPlt := Lib.hid hp
  have HStt := Lib.hid hs
  have HLO0 := Lib.hid LO0
  clear hP hp hs LO0
  unfold Plt.val Stt.val
  go_enter Tryd.func4, Tryd.ntmps4
  go_wp2_with fail
  refine (BIG.out _ HLO0.out.plt).mono ?_
  rintro e w1 ⟨rfl, hB1⟩
  have HLO1 := Lib.hid (HLO0.out.next hB1)
  clear hB1 HLO0
  obtain ⟨p0, p1, p2, p3⟩ := HLO1.out.pc
  obtain ⟨s0, s1, s2, s3, s4, s5, s6⟩ := sBox_cells HLO1.out.bs
  by_cases hq : bigP p = true
  · rw [hq]
    go_wp2_with fail
    refine (AW.out _ (HPow.out.below HLO1.out.low)).mono ?_
    rintro e w2 ⟨rfl, hB2⟩
    go_wp2_with fail
    go_ret
    exact ⟨rfl, below_after hB2 (Nat.le_refl _) HLO1.out.low⟩
  rw [show bigP p = false by simpa using hq]
  go_wp2_with fail
  refine (CS.out s _ HLO1.out.plt HLO1.out.stt).mono ?_
  rintro e w2 ⟨rfl, hB2⟩
  have HLO2 := Lib.hid (HLO1.out.next hB2)
  clear hB2 HLO1 p0 p1 p2 p3 s0 s1 s2 s3 s4 s5 s6
  obtain ⟨p0, p1, p2, p3⟩ := HLO2.out.pc
  by_cases hc : checkState p s = 0
  case neg =>
    go_wp2_with fail
    refine (AW.out _ (HPow.out.below HLO2.out.low)).mono ?_
    rintro e w3 ⟨rfl, hB3⟩
    go_wp2_with fail
    go_ret
    exact ⟨rfl, below_after hB3 (Nat.le_refl _) HLO2.out.low⟩
  rw [hc]
  obtain ⟨B, L, S⟩ := sound_of hc
  have hcp : check p = 0 := by
    unfold checkState at hc
    split at hc
    · assumption
    · rename_i h; exact absurd hc h
  obtain ⟨k1, k2, k3⟩ := check_small hcp HPlt.out
  have kB := S.small
  have PA := Lib.hid (fun W hp => parts_ok p B W hp hcp S.buses S.small)
  have hsz : Sized s := HStt.out.sized
  have BR := Lib.hid (fun K i (hx : PartIn s K i) W hp hs => break_part p s K i W hp hs (fit_of HPlt.out hc) hc hx)
  have LV := Lib.hid (fun s (S : Sound p s B L) (hc : checkState p s = 0) W hp hs => live_ok p s B L S W hc hp hs)
  have CL := Lib.hid (fun s (S : Sound p s B L) (hc : checkState p s = 0) W hp hs => clashes_ok p s B L S (by omega) W hc hp hs)
  have MD := Lib.hid (fun t K i (hc : checkState p t = 0) (hx : PartIn t K i) W hp hs => mend_part p t K i W hp hs (fit_of HPlt.out hc) hc hx)
  have CP := Lib.hid (fun W hs => CopyState_any s W hs (fit_of HPlt.out hc))
  have SM := Lib.hid (fun s t W hs ht => SameState_any s t W hs ht)
  have PK := Lib.hid (fun x n hn W => Pick_any x n hn W)
  have HS := Lib.hid S
  have HC := Lib.hid hc
  have HZ := Lib.hid hsz
  have eB := S.buses
  have b1 := S.pos
  clear S hc hcp hsz
  unfold Plt.val at PA BR LV CL MD CS
  rw [eB] at PA BR LV CL MD CS
  rw [eB] at p0 ⊢
  go_wp2_with fail
  refine (PA.out _ HLO2.out.plt).mono ?_
  rintro e w3 ⟨A3, c3, rfl, hB3, hO3⟩
  rw [partL_cells] at hO3
  have hR3 := rd_row2 hO3 (partL_length _ _ _)
  obtain ⟨m, hm⟩ : ∃ m, B + p.sn + p.ln = m := ⟨_, rfl⟩
  rw [hm] at hR3 ⊢
  have HR3 := Lib.hid hR3
  have HLO3 := Lib.hid (HLO2.out.next hB3)
  clear hB3 HLO2 p0 p1 p2 p3 hO3 hR3 PA
  obtain ⟨p0, p1, p2, p3⟩ := HLO3.out.pc
  rw [eB] at p0
  have v1 : IntKind.i64.wrap ((B : Int) + (p.sn : Int)) = (B : Int) + (p.sn : Int) := IntWalk.i64_in _ (by omega)
  have v2 : IntKind.i64.wrap ((B : Int) + (p.sn : Int) + (p.ln : Int)) = (m : Int) := by rw [IntWalk.i64_in _ (by omega)]; omega
  go_wp2_with fail
  refine (PK.out x m (by omega) _).mono ?_
  rintro e w3' ⟨rfl, rfl⟩
  obtain ⟨k, hk, hkm⟩ : ∃ k : Nat, pick x m = (k : Int) ∧ k < m := by
    have := pick_in x m (by omega)
    exact ⟨(pick x m).toNat, by omega, by omega⟩
  rw [hk]
  obtain ⟨b, off, z, rfl, hb, hz, hcz⟩ := HR3.out.at_ hkm
  obtain ⟨K, i, rfl, hx⟩ := partL_in HS.out HZ.out hz
  obtain ⟨c0, c1⟩ := cellP hcz
  have HX := Lib.hid hx
  have hk0 : (0 : Int) ≤ (k : Int) := by omega
  have hkn : (k : Int) < (m : Int) := by omega
  have p40 : ∀ o, (w3.alloc o).cell? ⟨w.heap.size, 0, none⟩ = some (.int .i64 B) := fun o => eB ▸ (HLO3.out.alloc o).pc.1
  have p41 : ∀ o, (w3.alloc o).cell? ⟨w.heap.size, 1, none⟩ = some (.slice p.sA p.sn p.sc) := fun o => (HLO3.out.alloc o).pc.2.1
  have p42 : ∀ o, (w3.alloc o).cell? ⟨w.heap.size, 2, none⟩ = some (.slice p.lA p.ln p.lc) := fun o => (HLO3.out.alloc o).pc.2.2.1
  have p43 : ∀ o, (w3.alloc o).cell? ⟨w.heap.size, 3, none⟩ = some (.slice p.rA p.rn p.rc) := fun o => (HLO3.out.alloc o).pc.2.2.2
  have s4 : ∀ o, _ := fun o => sBox_cells (HLO3.out.alloc o).bs
  have s40 := fun o => (s4 o).1
  have s41 := fun o => (s4 o).2.1
  have s42 := fun o => (s4 o).2.2.1
  have s43 := fun o => (s4 o).2.2.2.1
  have s44 := fun o => (s4 o).2.2.2.2.1
  have s45 := fun o => (s4 o).2.2.2.2.2.1
  have s46 := fun o => (s4 o).2.2.2.2.2.2
  clear hz hcz hx s4 p0 p1 p2 p3
  go_wp2_with fail
  refine (BR.out K i HX.out _ (HLO3.out.alloc _).plt (HLO3.out.alloc _).stt).mono ?_
  rintro e w5 ⟨t, rfl, hB5, hO5, hC5⟩
  have hzt : Sized t := hO5.sized
  have hl5 : t.cont.map List.length = s.cont.map List.length := by rw [hC5, brk_lens]
  have hT : Sound p t B L := HS.out.same HZ.out hzt hl5
  have hct : checkState p t = 0 := checkState_same HZ.out hzt hl5 (fun j hj => by rw [(cont_eq hC5).1, (brk_keeps s K i true).1]; exact hj) (by rw [(cont_eq hC5).2.1, (brk_keeps s K i true).2]) HC.out
  have hW : Worse s t := (brk_worse HX.out).cont hC5
  have hLT : Lt w p s t w.heap.size (w.heap.size + 1) w3.heap.size w5.heap.size K i (w5.alloc (.cells (sBox t) 29)) := by
    have h1 : Below w5.heap.size w5 (w5.alloc (.cells (sBox t) 29)) := (Below.refl _ _).alloc (Nat.le_refl _) _
    have h2 := hB5.size
    rw [World.size_alloc] at h2
    exact ⟨((HLO3.out.alloc _).next hB5).next h1, Blk.below (Blk.below (heap_alloc_new w3 _) hB5 (by rw [World.size_alloc]; omega)) h1 (by omega), heap_alloc_new w5 _, (sttIn_of hO5).next h1⟩
  have hLO5 := (HLO3.out.alloc (.cells #[.int .i64 K, .int .i64 i] 57)).next hB5
  have p50 : ∀ o, (w5.alloc o).cell? ⟨w.heap.size, 0, none⟩ = some (.int .i64 B) := fun o => eB ▸ (hLO5.alloc o).pc.1
  have p51 : ∀ o, (w5.alloc o).cell? ⟨w.heap.size, 1, none⟩ = some (.slice p.sA p.sn p.sc) := fun o => (hLO5.alloc o).pc.2.1
  have p52 : ∀ o, (w5.alloc o).cell? ⟨w.heap.size, 2, none⟩ = some (.slice p.lA p.ln p.lc) := fun o => (hLO5.alloc o).pc.2.2.1
  have p53 : ∀ o, (w5.alloc o).cell? ⟨w.heap.size, 3, none⟩ = some (.slice p.rA p.rn p.rc) := fun o => (hLO5.alloc o).pc.2.2.2
  have HLT5 := Lib.hid hLT
  have HT := Lib.hid hT
  have HCT := Lib.hid hct
  have HW := Lib.hid hW
  have HZT := Lib.hid hzt
  have HC5 := Lib.hid hC5
  clear HLO3 HR3 hLO5 hLT hO5 hB5 hzt hl5 hT hct hW hC5 p40 p41 p42 p43 s40 s41 s42 s43 s44 s45 s46 c0 c1 hb
  unfold Stt.val
  go_wp2_with fail
  refine (CS.out t _ HLT5.out.lo.plt HLT5.out.tin).mono ?_
  rintro e w6 ⟨rfl, hB6⟩
  rw [HCT.out]
  have HLT6 := Lib.hid (HLT5.out.next hB6)
  clear HLT5 hB6 p50 p51 p52 p53
  obtain ⟨p0, p1, p2, p3⟩ := HLT6.out.lo.pc
  obtain ⟨s0, s1, s2, s3, s4, s5, s6⟩ := sBox_cells HLT6.out.lo.bs
  obtain ⟨t0, t1, t2, t3, t4, t5, t6⟩ := sBox_cells HLT6.out.tb
  rw [eB] at p0
  go_wp2_with fail
  refine (LV.out s HS.out HC.out _ HLT6.out.lo.plt HLT6.out.lo.stt).mono ?_
  rintro e w7 ⟨g7, rfl, hB7, -, hG7⟩
  have HLT7 := Lib.hid (HLT6.out.next hB7)
  have HG7 := Lib.hid hG7
  clear p0 p1 p2 p3 s0 s1 s2 s3 s4 s5 s6 t0 t1 t2 t3 t4 t5 t6
  clear HLT6 hB7 hG7
  obtain ⟨p0, p1, p2, p3⟩ := HLT7.out.lo.pc
  obtain ⟨s0, s1, s2, s3, s4, s5, s6⟩ := sBox_cells HLT7.out.lo.bs
  obtain ⟨t0, t1, t2, t3, t4, t5, t6⟩ := sBox_cells HLT7.out.tb
  rw [eB] at p0
  go_wp2_with fail
  refine (LV.out t HT.out HCT.out _ HLT7.out.lo.plt HLT7.out.tin).mono ?_
  rintro e w8 ⟨g8, rfl, hB8, -, hG8⟩
  have HLT8 := Lib.hid (HLT7.out.next hB8)
  have HG8 := Lib.hid hG8
  have HG78 := Lib.hid (Blk.below HG7.out hB8 (Blk.lt HG7.out))
  clear p0 p1 p2 p3 s0 s1 s2 s3 s4 s5 s6 t0 t1 t2 t3 t4 t5 t6
  clear HLT7 hB8 hG8 HG7
  obtain ⟨p0, p1, p2, p3⟩ := HLT8.out.lo.pc
  obtain ⟨s0, s1, s2, s3, s4, s5, s6⟩ := sBox_cells HLT8.out.lo.bs
  obtain ⟨t0, t1, t2, t3, t4, t5, t6⟩ := sBox_cells HLT8.out.tb
  rw [eB] at p0
  go_wp2_with fail
  refine (CL.out s HS.out HC.out _ HLT8.out.lo.plt HLT8.out.lo.stt).mono ?_
  rintro e w9 ⟨A9, c9, rfl, hB9, hO9⟩
  obtain ⟨lc, hlc⟩ : ∃ l, clashL p s L = l := ⟨_, rfl⟩
  rw [hlc] at hO9 ⊢
  have hR9 := rd_pairs hO9
  obtain ⟨nc, hnc⟩ : ∃ n, lc.length = n := ⟨_, rfl⟩
  rw [hnc] at hR9 ⊢
  have HR9 := Lib.hid hR9
  have hnc64 : nc ≤ 64 := by rw [← hnc, ← hlc]; exact clashL_length p s L k1
  have HLC := Lib.hid hlc
  have HNC := Lib.hid hnc
  have HLT9 := Lib.hid (HLT8.out.next hB9)
  have HG89 := Lib.hid (Blk.below HG8.out hB9 (Blk.lt HG8.out))
  have HG79 := Lib.hid (Blk.below HG78.out hB9 (Blk.lt HG78.out))
  clear p0 p1 p2 p3 s0 s1 s2 s3 s4 s5 s6 t0 t1 t2 t3 t4 t5 t6
  clear HLT8 hB9 hO9 HG78 HG8 hR9 hlc hnc
  obtain ⟨p0, p1, p2, p3⟩ := HLT9.out.lo.pc
  obtain ⟨s0, s1, s2, s3, s4, s5, s6⟩ := sBox_cells HLT9.out.lo.bs
  obtain ⟨t0, t1, t2, t3, t4, t5, t6⟩ := sBox_cells HLT9.out.tb
  rw [eB] at p0
  go_wp2_with fail
  refine (CL.out t HT.out HCT.out _ HLT9.out.lo.plt HLT9.out.tin).mono ?_
  rintro e w10 ⟨A10, c10, rfl, hB10, hO10⟩
  obtain ⟨ld, hld⟩ : ∃ l, clashL p t L = l := ⟨_, rfl⟩
  rw [hld] at hO10 ⊢
  have hR10 := rd_pairs hO10
  obtain ⟨nd, hnd⟩ : ∃ n, ld.length = n := ⟨_, rfl⟩
  rw [hnd] at hR10 ⊢
  have HR10 := Lib.hid hR10
  have hnd64 : nd ≤ 64 := by rw [← hnd, ← hld]; exact clashL_length p t L k1
  have HLD := Lib.hid hld
  have HND := Lib.hid hnd
  have HR9' := Lib.hid (HR9.out.next hB10)
  have HLT10 := Lib.hid (HLT9.out.next hB10)
  have HGT := Lib.hid (Blk.below HG89.out hB10 (Blk.lt HG89.out))
  have HGS := Lib.hid (Blk.below HG79.out hB10 (Blk.lt HG79.out))
  clear p0 p1 p2 p3 s0 s1 s2 s3 s4 s5 s6 t0 t1 t2 t3 t4 t5 t6
  clear HLT9 hB10 hO10 HG79 HG89 HR9 hR10 hld hnd
  go_wp2_with fail
  go_loopw [20] (fun i wr => ∃ k : Nat, k ≤ B ∧ i = .int .i64 k ∧ w10 = wr) (fun i _ => B - (intOf i).toNat)
  case atStart => exact ⟨0, by omega, rfl, rfl⟩
  obtain ⟨k, hkB, rfl, rfl⟩ := hrel
  by_cases hlt : k < B
  · obtain ⟨x1, hx1⟩ : ∃ x, (liveL p s L)[k]? = some x := ⟨_, List.getElem?_eq_getElem (by rw [liveL_length]; exact hlt)⟩
    obtain ⟨x2, hx2⟩ : ∃ x, (liveL p t L)[k]? = some x := ⟨_, List.getElem?_eq_getElem (by rw [liveL_length]; exact hlt)⟩
    have d1 : w10.cell? ⟨g7, k, none⟩ = some (.bool x1) := BoolB.cell HGS.out hx1
    have d2 : w10.cell? ⟨g8, k, none⟩ = some (.bool x2) := BoolB.cell HGT.out hx2
    have hk0' : (0 : Int) ≤ (k : Int) := by omega
    have hkn' : (k : Int) < (B : Int) := by omega
    have hx : x2 = true → x1 = true := fun e => by
      subst e
      have := HW.out.live HS.out HT.out HPlt.out.src.1 k hlt hx2
      rw [hx1] at this
      simpa using this
    clear hx1 hx2
    cases x2
    · clear hx
      go_wp2
      go_roundw
      case rel => exact ⟨k + 1, by omega, by go_num, by simp⟩
      case measure => simp [intOf]; omega
    · obtain rfl := hx rfl
      go_wp2
      go_roundw
      case rel => exact ⟨k + 1, by omega, by go_num, by simp⟩
      case measure => simp [intOf]; omega
  obtain rfl : B = k := by omega
  go_wp2
  clear hlt hkB
  go_loopw [21] (fun i wr => ∃ k : Nat, k ≤ nd ∧ i = .int .i64 k ∧ Below w10.heap.size w10 wr) (fun i _ => nd - (intOf i).toNat)
  case atStart => exact ⟨0, by omega, rfl, Below.refl _ _⟩
  obtain ⟨k, hkd, rfl, hB⟩ := hrel
  have hz' := hB.size
  by_cases hlt : k < nd
  · obtain ⟨bz, oz, z, rfl, hbz, hz, hcz⟩ := (HR10.out.below hB).at_ hlt
    obtain ⟨z1, z2⟩ := z
    obtain ⟨d0, d1⟩ := cellP hcz
    have hzc : (z1, z2) ∈ lc := by
      rw [← HLC.out]
      refine HW.out.clash HS.out HT.out _ ?_
      rw [HLD.out]
      exact List.mem_of_getElem? hz
    have HZC := Lib.hid hzc
    have hk0' : (0 : Int) ≤ (k : Int) := by omega
    have hkn' : (k : Int) < (nd : Int) := by omega
    clear hz hcz hzc
    go_wp2
    obtain ⟨wr0, e0⟩ : ∃ x, x = wr := ⟨wr, rfl⟩
    subst e0
    go_loopw [22, 23] (fun f i wr => ∃ (j : Nat) (q : Bool), j ≤ nc ∧ i = .int .i64 j ∧ f = .bool q ∧ Below wr0.heap.size wr0 wr ∧ Hid (q = true ∨ ∀ j', j' < j → lc[j']? ≠ some (z1, z2))) (fun _ i _ => nc - (intOf i).toNat)
    case atStart => exact ⟨0, false, by omega, rfl, rfl, Below.refl _ _, .inr (fun j' h => absurd h (by omega))⟩
    obtain ⟨j, q, hj, rfl, rfl, hBi, hE⟩ := hrel
    have hzi := hBi.size
    by_cases hlj : j < nc
    · obtain ⟨by_, oy, y, rfl, hby, hy, hcy⟩ := (HR9'.out.below (below_after hBi (Nat.le_refl _) hB |> fun h => h)).at_ hlj
      obtain ⟨y1, y2⟩ := y
      obtain ⟨f0, f1⟩ := cellP hcy
      have d0' := (hBi.cell (p := ⟨bz, oz + k * 2, none⟩) (Nat.lt_of_lt_of_le hbz hz')).trans d0
      have d1' := (hBi.cell (p := ⟨bz, oz + k * 2 + 1, none⟩) (Nat.lt_of_lt_of_le hbz hz')).trans d1
      have HY := Lib.hid hy
      have hj0 : (0 : Int) ≤ (j : Int) := by omega
      have hjn : (j : Int) < (nc : Int) := by omega
      clear hy hcy d0 d1
      cases q
      · have hE' : Hid ((y1 == z1 && y2 == z2) = true ∨ ∀ j', j' < j + 1 → lc[j']? ≠ some (z1, z2)) := by
          cases hv : (y1 == z1 && y2 == z2)
          · refine .inr (fun j' h => ?_)
            rcases hE.out with h1 | h1
            · cases h1
            · rcases Nat.lt_or_ge j' j with h2 | h2
              · exact h1 j' h2
              · obtain rfl : j' = j := by omega
                rw [HY.out]
                intro h3
                cases h3
                simp at hv
          · exact .inl rfl
        clear hE
        go_wp2
        go_quiet (fail)
        go_wp2
        go_roundw
        case rel => exact ⟨j + 1, _, by omega, by go_num, rfl, by (repeat' (first | (with_reducible exact Below.refl _ _) | (with_reducible assumption) | (with_reducible refine below_drewN ?_ _) | (with_reducible refine below_after (by assumption) ?_ ?_) | (with_reducible refine Below.drew ?_) | (with_reducible refine Below.alloc ?_ ?_ _) | (with_reducible refine Below.setCell ?_ ?_ _) | omega | (simp; omega) | (simp; done))), hE'⟩
        case measure => simp [intOf]; omega
      · go_wp2
        go_quiet (fail)
        go_wp2
        go_roundw
        case rel => exact ⟨j + 1, true, by omega, by go_num, by simp, by (repeat' (first | (with_reducible exact Below.refl _ _) | (with_reducible assumption) | (with_reducible refine below_drewN ?_ _) | (with_reducible refine below_after (by assumption) ?_ ?_) | (with_reducible refine Below.drew ?_) | (with_reducible refine Below.alloc ?_ ?_ _) | (with_reducible refine Below.setCell ?_ ?_ _) | omega | (simp; omega) | (simp; done))), .inl rfl⟩
        case measure => simp [intOf]; omega
    obtain rfl : q = true := by
      rcases hE.out with h1 | h1
      · exact h1
      · obtain ⟨j', hj'⟩ := List.getElem?_of_mem HZC.out
        have h2 := (List.getElem?_eq_some_iff.1 hj').1
        rw [HNC.out] at h2
        exact absurd hj' (h1 j' (by omega))
    go_wp2
    go_roundw
    case rel => exact ⟨k + 1, by omega, by go_num, by (repeat' (first | (with_reducible exact Below.refl _ _) | (with_reducible assumption) | (with_reducible refine below_drewN ?_ _) | (with_reducible refine below_after (by assumption) ?_ ?_) | (with_reducible refine Below.drew ?_) | (with_reducible refine Below.alloc ?_ ?_ _) | (with_reducible refine Below.setCell ?_ ?_ _) | omega | (simp; omega) | (simp; done)))⟩
    case measure => simp [intOf]; omega
  obtain rfl : nd = k := by omega
  have HLT11 := Lib.hid (HLT10.out.next hB)
  clear HLT10 hz' hlt hkd
  obtain ⟨p0, p1, p2, p3⟩ := HLT11.out.lo.pc
  obtain ⟨s0, s1, s2, s3, s4, s5, s6⟩ := sBox_cells HLT11.out.lo.bs
  obtain ⟨t0, t1, t2, t3, t4, t5, t6⟩ := sBox_cells HLT11.out.tb
  have r0 : wr.cell? ⟨w3.heap.size, 0, none⟩ = some (.int .i64 K) := HLT11.out.part.cell 0
  have r1 : wr.cell? ⟨w3.heap.size, 1, none⟩ = some (.int .i64 i) := HLT11.out.part.cell 1
  rw [eB] at p0
  go_wp2_with fail
  have hlt5 : t.cont.map List.length = s.cont.map List.length := by rw [HC5.out, brk_lens]
  refine (MD.out t K i HCT.out (HX.out.same hlt5) _ HLT11.out.lo.plt HLT11.out.tin).mono ?_
  rintro e w12 ⟨u, rfl, hB12, hO12, hC12⟩
  have HLO12 := Lib.hid (HLT11.out.lo.next hB12)
  have HG12 := Lib.hid (Blk.below (Blk.below HGS.out hB (Blk.lt HGS.out)) hB12 (Nat.lt_of_lt_of_le (Blk.lt HGS.out) hB.size))
  have hR12 := HLT11.out.part.below hB12 HLT11.out.part.lt
  have r12 : ∀ o, Blk (w12.alloc o) w3.heap.size 57 #[.int .i64 K, .int .i64 i] := fun o => hR12.alloc o
  have HU := Lib.hid (sttIn_of hO12)
  have HC12 := Lib.hid hC12
  clear p0 p1 p2 p3 s0 s1 s2 s3 s4 s5 s6 t0 t1 t2 t3 t4 t5 t6 r0 r1 hlt5 hB12 hO12 hC12 hR12
  have s7 : ∀ o, _ := fun o => sBox_cells (HLO12.out.alloc o).bs
  have s0 := fun o => (s7 o).1
  have s1 := fun o => (s7 o).2.1
  have s2 := fun o => (s7 o).2.2.1
  have s3 := fun o => (s7 o).2.2.2.1
  have s4 := fun o => (s7 o).2.2.2.2.1
  have s5 := fun o => (s7 o).2.2.2.2.2.1
  have s6 := fun o => (s7 o).2.2.2.2.2.2
  have r0 : ∀ o, (w12.alloc o).cell? ⟨w3.heap.size, 0, none⟩ = some (.int .i64 K) := fun o => (r12 o).cell 0
  have r1 : ∀ o, (w12.alloc o).cell? ⟨w3.heap.size, 1, none⟩ = some (.int .i64 i) := fun o => (r12 o).cell 1
  have p0 : ∀ o, (w12.alloc o).cell? ⟨w.heap.size, 0, none⟩ = some (.int .i64 B) := fun o => eB ▸ (HLO12.out.alloc o).pc.1
  have p1 : ∀ o, (w12.alloc o).cell? ⟨w.heap.size, 1, none⟩ = some (.slice p.sA p.sn p.sc) := fun o => (HLO12.out.alloc o).pc.2.1
  have p2 : ∀ o, (w12.alloc o).cell? ⟨w.heap.size, 2, none⟩ = some (.slice p.lA p.ln p.lc) := fun o => (HLO12.out.alloc o).pc.2.2.1
  have p3 : ∀ o, (w12.alloc o).cell? ⟨w.heap.size, 3, none⟩ = some (.slice p.rA p.rn p.rc) := fun o => (HLO12.out.alloc o).pc.2.2.2
  clear s7 r12
  unfold Stt.val
  go_upto_region 32 with fail
  go_cut [25] from 179 to 215 (fun b W => ∃ bv, b = .bool bv ∧ Hid (badAt s K i = bv) ∧ W = w12.alloc (.cells (sBox u) 29))
  case first =>
    rcases HX.out with ⟨rfl, h⟩ | ⟨rfl, h⟩ | ⟨rfl, h⟩
    · have hK : PartIn s 1 i := HX.out
      obtain ⟨gb, ob, ebA, hgb, hcb⟩ := BsIn.at_ (HLO12.out.stt.badBus) (k := i) (by have := HZ.out s.badBus (by simp [Stt.lists]); omega)
      have hcb' : ∀ o, (w12.alloc o).cell? ⟨gb, ob + i, none⟩ = some (.bool (bit s.badBus i)) := fun o => (((Below.refl w12.heap.size w12).alloc (Nat.le_refl _) o).cell (p := ⟨gb, ob + i, none⟩) hgb).trans hcb
      have hin : (i : Int) < (s.badBus.n : Int) := by have := HZ.out s.badBus (by simp [Stt.lists]); omega
      have hi0 : (0 : Int) ≤ (i : Int) := by omega
      rw [ebA] at s6
      obtain ⟨bv, hbv⟩ : ∃ q, bit s.badBus i = q := ⟨_, rfl⟩
      rw [hbv] at hcb'
      have HBV : Hid (badAt s 1 i = bv) := by show badAt s 1 i = bv; simpa [badAt] using hbv
      clear hcb hbv h hK hgb ebA
      cases bv <;> (go_wp2_with fail; go_meet; exact ⟨_, rfl, HBV, rfl⟩)
    · have hK : PartIn s 2 i := HX.out
      obtain ⟨gb, ob, ebA, hgb, hcb⟩ := BsIn.at_ (HLO12.out.stt.badSource) (k := i) (by have := HZ.out s.badSource (by simp [Stt.lists]); omega)
      have hcb' : ∀ o, (w12.alloc o).cell? ⟨gb, ob + i, none⟩ = some (.bool (bit s.badSource i)) := fun o => (((Below.refl w12.heap.size w12).alloc (Nat.le_refl _) o).cell (p := ⟨gb, ob + i, none⟩) hgb).trans hcb
      have hin : (i : Int) < (s.badSource.n : Int) := by have := HZ.out s.badSource (by simp [Stt.lists]); omega
      have hi0 : (0 : Int) ≤ (i : Int) := by omega
      rw [ebA] at s4
      obtain ⟨bv, hbv⟩ : ∃ q, bit s.badSource i = q := ⟨_, rfl⟩
      rw [hbv] at hcb'
      have HBV : Hid (badAt s 2 i = bv) := by show badAt s 2 i = bv; simpa [badAt] using hbv
      clear hcb hbv h hK hgb ebA
      cases bv <;> (go_wp2_with fail; go_meet; exact ⟨_, rfl, HBV, rfl⟩)
    · have hK : PartIn s 3 i := HX.out
      obtain ⟨gb, ob, ebA, hgb, hcb⟩ := BsIn.at_ (HLO12.out.stt.badLink) (k := i) (by have := HZ.out s.badLink (by simp [Stt.lists]); omega)
      have hcb' : ∀ o, (w12.alloc o).cell? ⟨gb, ob + i, none⟩ = some (.bool (bit s.badLink i)) := fun o => (((Below.refl w12.heap.size w12).alloc (Nat.le_refl _) o).cell (p := ⟨gb, ob + i, none⟩) hgb).trans hcb
      have hin : (i : Int) < (s.badLink.n : Int) := by have := HZ.out s.badLink (by simp [Stt.lists]); omega
      have hi0 : (0 : Int) ≤ (i : Int) := by omega
      rw [ebA] at s2
      obtain ⟨bv, hbv⟩ : ∃ q, bit s.badLink i = q := ⟨_, rfl⟩
      rw [hbv] at hcb'
      have HBV : Hid (badAt s 3 i = bv) := by show badAt s 3 i = bv; simpa [badAt] using hbv
      clear hcb hbv h hK hgb ebA
      cases bv <;> (go_wp2_with fail; go_meet; exact ⟨_, rfl, HBV, rfl⟩)
  obtain ⟨bv, rfl, HBV, rfl⟩ := hcut
  have HUb : Hid (Blk (w12.alloc (.cells (sBox u) 29)) w12.heap.size 29 (sBox u)) := heap_alloc_new w12 _
  clear r0 r1 p0 p1 p2 p3
  go_upto_region 33 with fail
  go_cut [227] from 216 to 227 (fun b W => b = .bool false ∧ Below (w12.alloc (.cells (sBox u) 29)).heap.size (w12.alloc (.cells (sBox u) 29)) W)
  case first =>
    have hsame : bv = false → sameS u s = true := fun e => mend_back HX.out HC5.out HC12.out (HBV.out.trans e)
    obtain ⟨u0, u1, u2, u3, u4, u5, u6⟩ := sBox_cells HUb.out
    have hLO13 := HLO12.out.alloc (.cells (sBox u) 29)
    have h0 : SttIn (w12.alloc (.cells (sBox u) 29)) (w12.alloc (.cells (sBox u) 29)).heap.size u := HU.out.next ((Below.refl _ _).alloc (Nat.le_refl _) _)
    have SM' := Lib.hid (SM.out u s _ h0 hLO13.stt)
    clear h0 hLO13
    cases bv
    · rw [hsame rfl] at SM'
      clear hsame
      go_wp2_with fail
      refine SM'.out.mono ?_
      rintro e w13 ⟨rfl, hB13⟩
      go_wp2_with fail
      all_goals (go_meet; exact ⟨rfl, hB13⟩)
    · clear hsame SM'
      go_wp2_with fail
      all_goals (go_meet; exact ⟨rfl, Below.refl _ _⟩)
  obtain ⟨rfl, hcut⟩ := hcut
  have HLO13 := Lib.hid ((HLO12.out.alloc (.cells (sBox u) 29)).next hcut)
  have hGa := HG12.out.alloc (.cells (sBox u) 29)
  have HG13 := Lib.hid (Blk.below hGa hcut (Blk.lt hGa))
  clear hGa hcut HUb HU HBV s0 s1 s2 s3 s4 s5 s6 HC12 HC5 HX HW HCT HT HLT11 HR10 HR9' HGS HGT HLD HND HLC HNC hB
  obtain ⟨p0, p1, p2, p3⟩ := HLO13.out.pc
  rw [eB] at p0
  by_cases hl : 0 < p.ln
  case neg =>
    obtain hl0 : p.ln = 0 := by omega
    rw [hl0] at p2
    go_wp2_with fail
    refine (AW.out _ (HPow.out.below HLO13.out.low)).mono ?_
    rintro e w14 ⟨rfl, hB14⟩
    go_wp2_with fail
    go_ret
    exact ⟨rfl, below_after hB14 (Nat.le_refl _) HLO13.out.low⟩
  have hl' : (0 : Int) < (p.ln : Int) := by omega
  go_wp2_with fail
  refine (PK.out y p.ln (by omega) _).mono ?_
  rintro e w13' ⟨rfl, rfl⟩
  obtain ⟨l, hk2, hlm⟩ : ∃ l : Nat, pick y p.ln = (l : Int) ∧ l < p.ln := by
    have := pick_in y p.ln (by omega)
    exact ⟨(pick y p.ln).toNat, by omega, by omega⟩
  rw [hk2]
  obtain ⟨s0, s1, s2, s3, s4, s5, s6⟩ := sBox_cells HLO13.out.bs
  go_wp2_with fail
  refine (CP.out _ HLO13.out.stt).mono ?_
  rintro e w15 ⟨⟨⟨A, n, cp, lc⟩, locked, badLink, on, badSource, earthed, badBus⟩, rfl, hB15, hO15, hc15⟩
  dsimp only at hc15
  unfold Stt.val
  dsimp only
  have hown := hO15.own ⟨A, n, cp, lc⟩ (by simp [Stt.lists])
  obtain rfl : n = p.ln := by
    have h1 := hown.len
    have h2 := HZ.out s.closed (by simp [Stt.lists])
    have h3 := HS.out.lens.closed
    dsimp only at h1
    rw [hc15.1] at h1
    omega
  obtain ⟨gc, rfl, hgc⟩ : ∃ g, A = some ⟨g, 0, none⟩ ∧ wc.heap.size ≤ g := by
    rcases hown.own.2 with ⟨_, h0⟩ | ⟨g, cap, cur, e, hb, _⟩
    · dsimp only at h0
      omega
    · simp only [Value.slice.injEq] at e
      exact ⟨g, e.1, hb⟩
  have cg : ∀ o, (w15.alloc o).cell? ⟨gc, l, none⟩ = some (.bool (lc[l]?.getD false)) := fun o => by
    have h0 : l < lc.length := by have := hown.len; dsimp only at this; omega
    have h1 := ((hO15.alloc o).own ⟨some ⟨gc, 0, none⟩, p.ln, cp, lc⟩ (by simp [Stt.lists])).own.cellAt l (by show l < p.ln * 1; omega)
    rw [h1, List.getElem?_map, List.getElem?_eq_getElem h0]
    rfl
  have fg : ∀ o, _ := fun o => ((hO15.alloc o).own ⟨some ⟨gc, 0, none⟩, p.ln, cp, lc⟩ (by simp [Stt.lists])).own.frozenAt l
  have zg : gc < w15.heap.size := (hown.own.lt gc rfl).2
  have hB16 : Below wc.heap.size wc ((w15.setCell ⟨gc, l, none⟩ (.bool true)).alloc (.cells (sBox ⟨⟨some ⟨gc, 0, none⟩, p.ln, cp, lc⟩, locked, badLink, on, badSource, earthed, badBus⟩) 29)) := by (repeat' (first | (with_reducible exact Below.refl _ _) | (with_reducible assumption) | (with_reducible refine below_drewN ?_ _) | (with_reducible refine below_after (by assumption) ?_ ?_) | (with_reducible refine Below.drew ?_) | (with_reducible refine Below.alloc ?_ ?_ _) | (with_reducible refine Below.setCell ?_ ?_ _) | omega | (simp; omega) | (simp; done)))
  have HLO16 := Lib.hid (HLO13.out.next hB16)
  have HG16 := Lib.hid (Blk.below HG13.out hB16 (Blk.lt HG13.out))
  have SL := lists_stored hO15.own hO15.apart (j := 0) (b := ⟨some ⟨gc, 0, none⟩, p.ln, cp, lc⟩) rfl rfl l true
  have HO16 : Hid (SttOwn ((w15.setCell ⟨gc, l, none⟩ (.bool true)).alloc (.cells (sBox ⟨⟨some ⟨gc, 0, none⟩, p.ln, cp, lc⟩, locked, badLink, on, badSource, earthed, badBus⟩) 29)) wc.heap.size ⟨⟨some ⟨gc, 0, none⟩, p.ln, cp, lc.set l true⟩, locked, badLink, on, badSource, earthed, badBus⟩) := SttOwn.alloc (s := ⟨⟨some ⟨gc, 0, none⟩, p.ln, cp, lc.set l true⟩, locked, badLink, on, badSource, earthed, badBus⟩) ⟨SL.1, SL.2⟩ _
  have hb16 : Blk ((w15.setCell ⟨gc, l, none⟩ (.bool true)).alloc (.cells (sBox ⟨⟨some ⟨gc, 0, none⟩, p.ln, cp, lc⟩, locked, badLink, on, badSource, earthed, badBus⟩) 29)) w15.heap.size 29 (sBox ⟨⟨some ⟨gc, 0, none⟩, p.ln, cp, lc⟩, locked, badLink, on, badSource, earthed, badBus⟩) := by
    have := heap_alloc_new (w15.setCell ⟨gc, l, none⟩ (.bool true)) (.cells (sBox ⟨⟨some ⟨gc, 0, none⟩, p.ln, cp, lc⟩, locked, badLink, on, badSource, earthed, badBus⟩) 29)
    rwa [World.size_setCell] at this
  have hzc : Sized ⟨⟨some ⟨gc, 0, none⟩, p.ln, cp, lc.set l true⟩, locked, badLink, on, badSource, earthed, badBus⟩ := HO16.out.sized
  obtain ⟨c0, c1, c2, c3, c4, c5, c6⟩ := hc15
  have hlc : (⟨⟨some ⟨gc, 0, none⟩, p.ln, cp, lc.set l true⟩, locked, badLink, on, badSource, earthed, badBus⟩ : Stt).cont.map List.length = s.cont.map List.length := by
    simp [Stt.cont, Stt.lists, c0, c1, c2, c3, c4, c5, c6]
  have HS16 := Lib.hid (HS.out.same HZ.out hzc hlc)
  have hlS : l < s.closed.l.length := by
    have h2 := HZ.out s.closed (by simp [Stt.lists])
    have h3 := HS.out.lens.closed
    omega
  have hW16 : Worse ⟨⟨some ⟨gc, 0, none⟩, p.ln, cp, lc.set l true⟩, locked, badLink, on, badSource, earthed, badBus⟩ s := (Worse.open_link s l hlS).cont' (by simp [Stt.cont, Stt.lists, c0, c1, c2, c3, c4, c5, c6])
  have HCK16 := Lib.hid (checkState_same HZ.out hzc hlc (fun j hj => hW16.closed j hj) c1 HC.out)
  have HW16 := Lib.hid hW16
  have hlm0 : (0 : Int) ≤ (l : Int) := by omega
  have hlm1 : (l : Int) < (p.ln : Int) := by omega
  clear hown SL c0 c1 c2 c3 c4 c5 c6 hO15 hB15 hB16 hzc hlc hW16 hlS p0 p1 p2 p3 s0 s1 s2 s3 s4 s5 s6
  obtain ⟨p0, p1, p2, p3⟩ := HLO16.out.pc
  obtain ⟨t0, t1, t2, t3, t4, t5, t6⟩ := sBox_cells hb16
  rw [eB] at p0
  clear hb16
  unfold sBox at p0 p1 p2 p3 t0 t1 t2 t3 t4 t5 t6
  dsimp only at p0 p1 p2 p3 t0 t1 t2 t3 t4 t5 t6
  go_upto_region 39 with fail
  clear cg fg hgc zg
  go_wp2_with fail
  refine (LV.out ⟨⟨some ⟨gc, 0, none⟩, p.ln, cp, lc.set l true⟩, locked, badLink, on, badSource, earthed, badBus⟩ HS16.out HCK16.out _ HLO16.out.plt (sttIn_of HO16.out)).mono ?_
  rintro e w17 ⟨g17, rfl, hB17, -, hG17⟩
  have HLO17 := Lib.hid (HLO16.out.next hB17)
  have HG17 := Lib.hid hG17
  have HGB := Lib.hid (Blk.below HG16.out hB17 (Blk.lt HG16.out))
  clear p0 p1 p2 p3 t0 t1 t2 t3 t4 t5 t6 HLO16 HG16 HO16 hB17 hG17
  go_wp2_with fail
  go_loopw [30] (fun i wr => ∃ k : Nat, k ≤ B ∧ i = .int .i64 k ∧ w17 = wr) (fun i _ => B - (intOf i).toNat)
  case atStart => exact ⟨0, by omega, rfl, rfl⟩
  obtain ⟨k, hkB, rfl, rfl⟩ := hrel
  by_cases hlt : k < B
  · obtain ⟨x1, hx1⟩ : ∃ x, (liveL p s L)[k]? = some x := ⟨_, List.getElem?_eq_getElem (by rw [liveL_length]; exact hlt)⟩
    obtain ⟨x2, hx2⟩ : ∃ x, (liveL p ⟨⟨some ⟨gc, 0, none⟩, p.ln, cp, lc.set l true⟩, locked, badLink, on, badSource, earthed, badBus⟩ L)[k]? = some x := ⟨_, List.getElem?_eq_getElem (by rw [liveL_length]; exact hlt)⟩
    have d1 : w17.cell? ⟨g7, k, none⟩ = some (.bool x1) := BoolB.cell HGB.out hx1
    have d2 : w17.cell? ⟨g17, k, none⟩ = some (.bool x2) := BoolB.cell HG17.out hx2
    have hk0' : (0 : Int) ≤ (k : Int) := by omega
    have hkn' : (k : Int) < (B : Int) := by omega
    have hx : x1 = true → x2 = true := fun e => by
      subst e
      have := HW16.out.live HS16.out HS.out HPlt.out.src.1 k hlt hx1
      rw [hx2] at this
      simpa using this
    clear hx1 hx2
    cases x1
    · clear hx
      go_wp2
      go_roundw
      case rel => exact ⟨k + 1, by omega, by go_num, by simp⟩
      case measure => simp [intOf]; omega
    · obtain rfl := hx rfl
      go_wp2
      go_roundw
      case rel => exact ⟨k + 1, by omega, by go_num, by simp⟩
      case measure => simp [intOf]; omega
  obtain rfl : B = k := by omega
  go_wp2_with fail
  refine (AW.out _ (HPow.out.below HLO17.out.low)).mono ?_
  rintro e w18 ⟨rfl, hB18⟩
  go_wp2_with fail
  go_ret
  exact ⟨rfl, below_after hB18 (Nat.le_refl _) HLO17.out.low⟩
end Go.Proofs.YtfcpenoenpdnlaaDoor
