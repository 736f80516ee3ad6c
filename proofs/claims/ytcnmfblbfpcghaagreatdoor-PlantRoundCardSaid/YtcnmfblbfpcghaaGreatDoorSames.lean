/- The kit's comparisons of what is the same: trips, sources, racks, links, plants; the law's of feeds. -/
import Derived.Test.YtcnmfblbfpcghaaGreatDoorPltO
import Derived.Laws.StructEq
import Derived.Lib.QuietBelow

set_option linter.unusedSimpArgs false
set_option linter.unusedVariables false
namespace Go.Proofs.YtcnmfblbfpcghaaGreatDoor
open Go.RowKit

theorem eqPair2 (a b : Int) (w : World) : (Op.equalIn 9999 86 (.agg #[.int .i64 a, .int .i64 b]) (.agg #[.int .i64 a, .int .i64 b])).run Tryz.prog w = .ok true w := by
  have u3 := Tryz.underlying3
  have a3 := Tryz.isAgg3
  have z3 := Tryz.sizeOf3
  rw [show (9999 : Nat) = 9998 + 1 from rfl, Op.equalIn]
  simp only [Sem.run_bind, run_underlying Tryz.underlying86, Result.andThen_ok]
  simp only [Std.Legacy.Range.forIn_eq_forIn_range', Std.Legacy.Range.size, Nat.sub_zero, Nat.add_sub_cancel, Nat.div_one, List.range'_succ, List.range'_zero, List.forIn_cons, List.forIn_nil]
  go_simp
theorem eqTrp (x : Trp) (w : World) : (Op.equalIn 10000 112 (.agg #[.int .i64 x.amps, .int .i64 x.millis]) (.agg #[.int .i64 x.amps, .int .i64 x.millis])).run Tryz.prog w = .ok true w := by
  have u3 := Tryz.underlying3
  have a3 := Tryz.isAgg3
  have z3 := Tryz.sizeOf3
  have hS : Tryz.prog.underlying 112 = some (.struct (Tryz.prog.fieldsOf 112)) := by kernel_rfl
  rw [show (10000 : Nat) = 9999 + 1 from rfl, run_equalIn_agg w 9999 112 _ _ hS (by kernel_rfl)]
  simp only [Program.fieldsOf, Tryz.underlying112]
  go_simp
theorem eqSrc (x : Src) (w : World) : (Op.equalIn 10000 110 (.agg #[.int .i64 x.bus, .int .i64 x.kind, .int .i64 x.power, .int .i64 x.sync, .int .i64 x.ohm]) (.agg #[.int .i64 x.bus, .int .i64 x.kind, .int .i64 x.power, .int .i64 x.sync, .int .i64 x.ohm])).run Tryz.prog w = .ok true w := by
  have u3 := Tryz.underlying3
  have a3 := Tryz.isAgg3
  have z3 := Tryz.sizeOf3
  have u4 := Tryz.underlying108
  have a4 := Tryz.isAgg108
  have z4 := Tryz.sizeOf108
  have hS : Tryz.prog.underlying 110 = some (.struct (Tryz.prog.fieldsOf 110)) := by kernel_rfl
  rw [show (10000 : Nat) = 9999 + 1 from rfl, run_equalIn_agg w 9999 110 _ _ hS (by kernel_rfl)]
  simp only [Program.fieldsOf, Tryz.underlying110]
  go_simp
theorem eqRck (x : Rck) (w : World) : (Op.equalIn 10000 115 (.agg #[.int .i64 x.f0, .int .i64 x.f1, .int .i64 x.power, .int .i64 x.paths]) (.agg #[.int .i64 x.f0, .int .i64 x.f1, .int .i64 x.power, .int .i64 x.paths])).run Tryz.prog w = .ok true w := by
  have u3 := Tryz.underlying3
  have a3 := Tryz.isAgg3
  have z3 := Tryz.sizeOf3
  have u4 := Tryz.underlying86
  have a4 := Tryz.isAgg86
  have z4 := Tryz.sizeOf86
  have e4 := eqPair2 x.f0 x.f1
  have hS : Tryz.prog.underlying 115 = some (.struct (Tryz.prog.fieldsOf 115)) := by kernel_rfl
  rw [show (10000 : Nat) = 9999 + 1 from rfl, run_equalIn_agg w 9999 115 _ _ hS (by kernel_rfl)]
  simp only [Program.fieldsOf, Tryz.underlying115]
  go_simp
set_option maxRecDepth 100000 in
theorem SameTrips_yes (A A' : Option Addr) (n c c' : Nat) (l : List Trp) (w : World) (hl : Rd w w.heap.size 2 Trp.enc A n l) (hm : Rd w w.heap.size 2 Trp.enc A' n l) (hn : n ≤ 1000000) :
    Calls Tryz.prog 142 #[.slice A n c, .slice A' n c'] w fun e w' => e = .returned (.bool true) ∧ Below w.heap.size w w' := by
  have HL := Lib.hid hl
  have HM := Lib.hid hm
  have EQ := Lib.hid eqTrp
  clear hl hm
  go_enter Tryz.func142, Tryz.ntmps142
  go_wp2
  go_loopw [5] (fun i wr => ∃ k : Nat, k ≤ n ∧ i = .int .i64 k ∧ Below w.heap.size w wr) (fun i _ => n - (intOf i).toNat)
  case atStart => exact ⟨0, by omega, rfl, Below.refl _ _⟩
  case round =>
    obtain ⟨k, hk, rfl, hB⟩ := hrel
    by_cases hlt : k < n
    · obtain ⟨b, off, x, rfl, hb, hx, hcx⟩ := (HL.out.below hB).at_ hlt
      obtain ⟨b', off', y, rfl, hb', hy, hcy⟩ := (HM.out.below hB).at_ hlt
      obtain rfl : x = y := by rw [hx] at hy; exact Option.some.inj hy
      obtain ⟨d0, d1⟩ := Trp.cells hcx
      obtain ⟨f0, f1⟩ := Trp.cells hcy
      have eq := EQ.out x
      have hk0 : (0 : Int) ≤ (k : Int) := by omega
      have hkn : (k : Int) < (n : Int) := by omega
      clear hx hy hcx hcy
      go_wp2
      go_quiet (fail)
      go_wp2
      go_roundw
      case rel => exact ⟨k + 1, by omega, by go_num, by (repeat' (first | (with_reducible exact Below.refl _ _) | (with_reducible assumption) | (with_reducible refine below_drewN ?_ _) | (with_reducible refine below_after (by assumption) ?_ ?_) | (with_reducible refine Below.drew ?_) | (with_reducible refine Below.alloc ?_ ?_ _) | (with_reducible refine Below.setCell ?_ ?_ _) | omega | (simp; omega) | (simp; done)))⟩
      case measure => simp [intOf]; omega
    · obtain rfl : n = k := by omega
      go_wp2
      go_ret
      exact ⟨rfl, hB⟩
set_option maxRecDepth 100000 in
theorem SameSources_yes (A A' : Option Addr) (n c c' : Nat) (l : List Src) (w : World) (hl : Rd w w.heap.size 5 Src.enc A n l) (hm : Rd w w.heap.size 5 Src.enc A' n l) (hn : n ≤ 1000000) :
    Calls Tryz.prog 66 #[.slice A n c, .slice A' n c'] w fun e w' => e = .returned (.bool true) ∧ Below w.heap.size w w' := by
  have HL := Lib.hid hl
  have HM := Lib.hid hm
  have EQ := Lib.hid eqSrc
  clear hl hm
  go_enter Tryz.func66, Tryz.ntmps66
  go_wp2
  go_loopw [5] (fun i wr => ∃ k : Nat, k ≤ n ∧ i = .int .i64 k ∧ Below w.heap.size w wr) (fun i _ => n - (intOf i).toNat)
  case atStart => exact ⟨0, by omega, rfl, Below.refl _ _⟩
  case round =>
    obtain ⟨k, hk, rfl, hB⟩ := hrel
    by_cases hlt : k < n
    · obtain ⟨b, off, x, rfl, hb, hx, hcx⟩ := (HL.out.below hB).at_ hlt
      obtain ⟨b', off', y, rfl, hb', hy, hcy⟩ := (HM.out.below hB).at_ hlt
      obtain rfl : x = y := by rw [hx] at hy; exact Option.some.inj hy
      obtain ⟨d0, d1, d2, d3, d4⟩ := Src.cells hcx
      obtain ⟨f0, f1, f2, f3, f4⟩ := Src.cells hcy
      have eq := EQ.out x
      have hk0 : (0 : Int) ≤ (k : Int) := by omega
      have hkn : (k : Int) < (n : Int) := by omega
      clear hx hy hcx hcy
      go_wp2
      go_quiet (fail)
      go_wp2
      go_roundw
      case rel => exact ⟨k + 1, by omega, by go_num, by (repeat' (first | (with_reducible exact Below.refl _ _) | (with_reducible assumption) | (with_reducible refine below_drewN ?_ _) | (with_reducible refine below_after (by assumption) ?_ ?_) | (with_reducible refine Below.drew ?_) | (with_reducible refine Below.alloc ?_ ?_ _) | (with_reducible refine Below.setCell ?_ ?_ _) | omega | (simp; omega) | (simp; done)))⟩
      case measure => simp [intOf]; omega
    · obtain rfl : n = k := by omega
      go_wp2
      go_ret
      exact ⟨rfl, hB⟩
set_option maxRecDepth 100000 in
theorem SameRacks_yes (A A' : Option Addr) (n c c' : Nat) (l : List Rck) (w : World) (hl : Rd w w.heap.size 4 Rck.enc A n l) (hm : Rd w w.heap.size 4 Rck.enc A' n l) (hn : n ≤ 1000000) :
    Calls Tryz.prog 68 #[.slice A n c, .slice A' n c'] w fun e w' => e = .returned (.bool true) ∧ Below w.heap.size w w' := by
  have HL := Lib.hid hl
  have HM := Lib.hid hm
  have EQ := Lib.hid eqRck
  clear hl hm
  go_enter Tryz.func68, Tryz.ntmps68
  go_wp2
  go_loopw [5] (fun i wr => ∃ k : Nat, k ≤ n ∧ i = .int .i64 k ∧ Below w.heap.size w wr) (fun i _ => n - (intOf i).toNat)
  case atStart => exact ⟨0, by omega, rfl, Below.refl _ _⟩
  case round =>
    obtain ⟨k, hk, rfl, hB⟩ := hrel
    by_cases hlt : k < n
    · obtain ⟨b, off, x, rfl, hb, hx, hcx⟩ := (HL.out.below hB).at_ hlt
      obtain ⟨b', off', y, rfl, hb', hy, hcy⟩ := (HM.out.below hB).at_ hlt
      obtain rfl : x = y := by rw [hx] at hy; exact Option.some.inj hy
      obtain ⟨d0, d1, d2, d3⟩ := Rck.cells hcx
      obtain ⟨f0, f1, f2, f3⟩ := Rck.cells hcy
      have eq := EQ.out x
      have hk0 : (0 : Int) ≤ (k : Int) := by omega
      have hkn : (k : Int) < (n : Int) := by omega
      clear hx hy hcx hcy
      go_wp2
      go_quiet (fail)
      go_wp2
      go_roundw
      case rel => exact ⟨k + 1, by omega, by go_num, by (repeat' (first | (with_reducible exact Below.refl _ _) | (with_reducible assumption) | (with_reducible refine below_drewN ?_ _) | (with_reducible refine below_after (by assumption) ?_ ?_) | (with_reducible refine Below.drew ?_) | (with_reducible refine Below.alloc ?_ ?_ _) | (with_reducible refine Below.setCell ?_ ?_ _) | omega | (simp; omega) | (simp; done)))⟩
      case measure => simp [intOf]; omega
    · obtain rfl : n = k := by omega
      go_wp2
      go_ret
      exact ⟨rfl, hB⟩
end Go.Proofs.YtcnmfblbfpcghaaGreatDoor

/- The kit's SameLink, SameLinks and SamePlant, of what is the same. -/
namespace Go.Proofs.YtcnmfblbfpcghaaGreatDoor
open Go.RowKit

set_option maxRecDepth 100000 in
set_option maxHeartbeats 4000000 in
theorem SameLink_yes (x : Lnk) (A : Option Addr) (c : Nat) (w : World) (h1 : Rd w w.heap.size 2 Trp.enc x.tA x.tn x.trip) (h2 : Rd w w.heap.size 2 Trp.enc A x.tn x.trip) (hn : x.tn ≤ 1000000) :
    Calls Tryz.prog 115 #[x.val, (x.at_ A c).val] w fun e w' => e = .returned (.bool true) ∧ Below w.heap.size w w' := by
  have H1 := Lib.hid h1
  have H2 := Lib.hid h2
  have ST := Lib.hid (fun W g1 g2 => SameTrips_yes x.tA A x.tn x.tc c x.trip W g1 g2 hn)
  clear h1 h2
  unfold Lnk.val Lnk.at_
  dsimp only
  go_enter Tryz.func115, Tryz.ntmps115
  go_wp2_with fail
  refine (ST.out _ (H1.out.next (by (repeat' (first | (with_reducible exact Below.refl _ _) | (with_reducible assumption) | (with_reducible refine below_drewN ?_ _) | (with_reducible refine below_after (by assumption) ?_ ?_) | (with_reducible refine Below.drew ?_) | (with_reducible refine Below.alloc ?_ ?_ _) | (with_reducible refine Below.setCell ?_ ?_ _) | omega | (simp; omega) | (simp; done))))) (H2.out.next (by (repeat' (first | (with_reducible exact Below.refl _ _) | (with_reducible assumption) | (with_reducible refine below_drewN ?_ _) | (with_reducible refine below_after (by assumption) ?_ ?_) | (with_reducible refine Below.drew ?_) | (with_reducible refine Below.alloc ?_ ?_ _) | (with_reducible refine Below.setCell ?_ ?_ _) | omega | (simp; omega) | (simp; done)))))).mono ?_
  rintro e w1 ⟨rfl, hB⟩
  go_wp2
  go_ret
  exact ⟨rfl, by (repeat' (first | (with_reducible exact Below.refl _ _) | (with_reducible assumption) | (with_reducible refine below_drewN ?_ _) | (with_reducible refine below_after (by assumption) ?_ ?_) | (with_reducible refine Below.drew ?_) | (with_reducible refine Below.alloc ?_ ?_ _) | (with_reducible refine Below.setCell ?_ ?_ _) | omega | (simp; omega) | (simp; done)))⟩
set_option maxRecDepth 100000 in
set_option maxHeartbeats 4000000 in
theorem SameLinks_yes (A A' : Option Addr) (n c c' : Nat) (l M : List Lnk) (w : World) (hl : Rd w w.heap.size 6 Lnk.enc A n l) (hm : Rd w w.heap.size 6 Lnk.enc A' n M) (hn : n ≤ 1000000) (hs : SameLnks l M) (ht : ∀ x ∈ l, Rd w w.heap.size 2 Trp.enc x.tA x.tn x.trip ∧ x.tn ≤ 1000000) (ht' : ∀ x ∈ M, Rd w w.heap.size 2 Trp.enc x.tA x.tn x.trip) :
    Calls Tryz.prog 67 #[.slice A n c, .slice A' n c'] w fun e w' => e = .returned (.bool true) ∧ Below w.heap.size w w' := by
  have HL := Lib.hid hl
  have HM := Lib.hid hm
  have HT := Lib.hid ht
  have HT' := Lib.hid ht'
  clear hl hm ht ht'
  go_enter Tryz.func67, Tryz.ntmps67
  go_wp2
  go_loopw [5] (fun i wr => ∃ k : Nat, k ≤ n ∧ i = .int .i64 k ∧ Below w.heap.size w wr) (fun i _ => n - (intOf i).toNat)
  case atStart => exact ⟨0, by omega, rfl, Below.refl _ _⟩
  case round =>
    obtain ⟨k, hk, rfl, hB⟩ := hrel
    by_cases hlt : k < n
    · obtain ⟨b, off, x, rfl, hb, hx, hcx⟩ := (HL.out.below hB).at_ hlt
      obtain ⟨b', off', y, rfl, hb', hy, hcy⟩ := (HM.out.below hB).at_ hlt
      obtain ⟨A2, c2, hy2⟩ := hs.2 k x hx
      rw [hy] at hy2
      obtain rfl : y = x.at_ A2 c2 := Option.some.inj hy2
      obtain ⟨htx, htn⟩ := HT.out x (List.mem_of_getElem? hx)
      have hty := HT'.out _ (List.mem_of_getElem? hy)
      obtain ⟨d0, d1, d2, d3, d4, d5⟩ := Lnk.cells hcx
      obtain ⟨f0, f1, f2, f3, f4, f5⟩ := Lnk.cells hcy
      have CR := Lib.hid (fun d os => SameLink_yes x A2 c2 (Go.Sort.grow (redrawn wr d) os) ((htx.below hB |>.more hB.size).next (below_regrown wr d os)) ((hty.below hB |>.more hB.size).next (below_regrown wr d os)) htn)
      unfold Lnk.val at CR
      unfold Lnk.at_ at CR f0 f1 f2 f3 f4 f5
      dsimp only at CR f0 f1 f2 f3 f4 f5
      have hk0 : (0 : Int) ≤ (k : Int) := by omega
      have hkn : (k : Int) < (n : Int) := by omega
      have rd0 := cell_regrown d0
      have rd1 := cell_regrown d1
      have rd2 := cell_regrown d2
      have rd3 := cell_regrown d3
      have rd4 := cell_regrown d4
      have rd5 := cell_regrown d5
      have rf0 := cell_regrown f0
      have rf1 := cell_regrown f1
      have rf2 := cell_regrown f2
      have rf3 := cell_regrown f3
      have rf4 := cell_regrown f4
      have rf5 := cell_regrown f5
      clear hx hy hcx hcy hy2 htx hty
      go_wp2_with fail
      refine wp_region_quiet_below (by kernel_rfl) (by kernel_rfl) ?_
      repeat (go_big_quiet_step (exact Calls.regrown_of (CR.out _ _)))
      refine wpQuiet_nil ?_
      intro _ hw'
      obtain ⟨⟨dq, osq⟩, hw''⟩ := hw'
      subst hw''
      have HF := Lib.hid (below_after (below_regrown wr dq osq) (Nat.le_refl _) hB)
      clear rd0 rd1 rd2 rd3 rd4 rd5 rf0 rf1 rf2 rf3 rf4 rf5 CR d0 d1 d2 d3 d4 d5 f0 f1 f2 f3 f4 f5
      obtain ⟨w5, hw5⟩ : ∃ z, Go.Sort.grow (redrawn wr dq) osq = z := ⟨_, rfl⟩
      rw [hw5] at HF ⊢
      clear hw5
      go_wp2
      go_roundw
      case rel => exact ⟨k + 1, by omega, by go_num, HF.out⟩
      case measure => simp [intOf]; omega
    · obtain rfl : n = k := by omega
      go_wp2
      go_ret
      exact ⟨rfl, hB⟩
set_option maxRecDepth 100000 in
set_option maxHeartbeats 4000000 in
theorem SamePlant_yes (p q : Plt) (w : World) (hp : PltIn w w.heap.size p) (hq : PltIn w w.heap.size q) (hc : CopyOf p q) (k1 : p.sn ≤ 60) (k2 : p.ln ≤ 60) (k3 : p.rn ≤ 60) (kt : ∀ x ∈ p.lnks, x.tn ≤ 20) :
    Calls Tryz.prog 25 #[p.val, q.val] w fun e w' => e = .returned (.bool true) ∧ Below w.heap.size w w' := by
  have HP := Lib.hid hp
  have HQ := Lib.hid hq
  have SS := Lib.hid (fun W g1 g2 => SameSources_yes p.sA q.sA p.sn p.sc q.sc p.srcs W g1 g2 (by omega))
  have SL := Lib.hid (fun W g1 g2 g3 g4 => SameLinks_yes p.lA q.lA p.ln p.lc q.lc p.lnks q.lnks W g1 g2 (by omega) hc.lnks g3 g4)
  have SR := Lib.hid (fun W g1 g2 => SameRacks_yes p.rA q.rA p.rn p.rc q.rc p.rcks W g1 g2 (by omega))
  have e1 := hc.buses
  have e2 := hc.sn
  have e3 := hc.ln
  have e4 := hc.rn
  have HC := Lib.hid hc
  have KT := Lib.hid kt
  clear hp hq hc kt
  unfold Plt.val
  rw [e1, e2, e3, e4]
  have g1 : ∀ W, Below w.heap.size w W → Rd W W.heap.size 5 Src.enc q.sA p.sn p.srcs := fun W h => by
    have := (HQ.out.next h).src
    rwa [e2, HC.out.srcs] at this
  have g2 : ∀ W, Below w.heap.size w W → Rd W W.heap.size 6 Lnk.enc q.lA p.ln q.lnks := fun W h => by
    have := (HQ.out.next h).lnk
    rwa [e3] at this
  have g3 : ∀ W, Below w.heap.size w W → Rd W W.heap.size 4 Rck.enc q.rA p.rn p.rcks := fun W h => by
    have := (HQ.out.next h).rck
    rwa [e4, HC.out.rcks] at this
  have G1 := Lib.hid g1
  have G2 := Lib.hid g2
  have G3 := Lib.hid g3
  clear e1 e2 e3 e4 g1 g2 g3
  go_enter Tryz.func25, Tryz.ntmps25
  have B0 : Below w.heap.size w ((w.alloc (.cells (pBox p) 26)).alloc (.cells #[.int .i64 p.buses, .slice q.sA p.sn q.sc, .slice q.lA p.ln q.lc, .slice q.rA p.rn q.rc] 26)) := by (repeat' (first | (with_reducible exact Below.refl _ _) | (with_reducible assumption) | (with_reducible refine below_drewN ?_ _) | (with_reducible refine below_after (by assumption) ?_ ?_) | (with_reducible refine Below.drew ?_) | (with_reducible refine Below.alloc ?_ ?_ _) | (with_reducible refine Below.setCell ?_ ?_ _) | omega | (simp; omega) | (simp; done)))
  have HB0 := Lib.hid B0
  have b1 : Blk ((w.alloc (.cells (pBox p) 26)).alloc (.cells #[.int .i64 p.buses, .slice q.sA p.sn q.sc, .slice q.lA p.ln q.lc, .slice q.rA p.rn q.rc] 26)) w.heap.size 26 (pBox p) := Blk.alloc (heap_alloc_new w _) _
  have b2 : Blk ((w.alloc (.cells (pBox p) 26)).alloc (.cells #[.int .i64 p.buses, .slice q.sA p.sn q.sc, .slice q.lA p.ln q.lc, .slice q.rA p.rn q.rc] 26)) (w.heap.size + 1) 26 #[.int .i64 p.buses, .slice q.sA p.sn q.sc, .slice q.lA p.ln q.lc, .slice q.rA p.rn q.rc] := by
    have h := heap_alloc_new (w.alloc (.cells (pBox p) 26)) (.cells #[.int .i64 p.buses, .slice q.sA p.sn q.sc, .slice q.lA p.ln q.lc, .slice q.rA p.rn q.rc] 26)
    rwa [World.size_alloc] at h
  have HB1 := Lib.hid b1
  have HB2 := Lib.hid b2
  clear B0 b1 b2
  go_wp2_with fail
  refine (SS.out _ (HP.out.next HB0.out).src (G1.out _ HB0.out)).mono ?_
  rintro e w1 ⟨rfl, hB⟩
  have K0 := Lib.hid (below_after hB (Nat.le_refl _) HB0.out)
  have K1 := Lib.hid (Blk.below HB1.out hB (Blk.lt HB1.out))
  have K2 := Lib.hid (Blk.below HB2.out hB (Blk.lt HB2.out))
  clear hB
  have x2 : w1.cell? ⟨w.heap.size, 2, none⟩ = some (.slice p.lA p.ln p.lc) := K1.out.cell 2
  have y2 : w1.cell? ⟨w.heap.size + 1, 2, none⟩ = some (.slice q.lA p.ln q.lc) := K2.out.cell 2
  go_wp2_with fail
  refine (SL.out _ (HP.out.next K0.out).lnk (G2.out _ K0.out) (fun x hx => ⟨(HP.out.next K0.out).trip x hx, by have := KT.out x hx; omega⟩) (fun x hx => (HQ.out.next K0.out).trip x hx)).mono ?_
  rintro e w2 ⟨rfl, hB⟩
  have M0 := Lib.hid (below_after hB (Nat.le_refl _) K0.out)
  have M1 := Lib.hid (Blk.below K1.out hB (Blk.lt K1.out))
  have M2 := Lib.hid (Blk.below K2.out hB (Blk.lt K2.out))
  clear hB x2 y2
  have x3 : w2.cell? ⟨w.heap.size, 3, none⟩ = some (.slice p.rA p.rn p.rc) := M1.out.cell 3
  have y3 : w2.cell? ⟨w.heap.size + 1, 3, none⟩ = some (.slice q.rA p.rn q.rc) := M2.out.cell 3
  go_wp2_with fail
  refine (SR.out _ (HP.out.next M0.out).rck (G3.out _ M0.out)).mono ?_
  rintro e w3 ⟨rfl, hB⟩
  have N0 := Lib.hid (below_after hB (Nat.le_refl _) M0.out)
  clear hB x3 y3
  go_wp2
  go_ret
  exact ⟨rfl, N0.out⟩
end Go.Proofs.YtcnmfblbfpcghaaGreatDoor
