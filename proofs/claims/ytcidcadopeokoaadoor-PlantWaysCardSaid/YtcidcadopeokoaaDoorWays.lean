/- The law that the answers fit the ways. -/
import Derived.Test.YtcidcadopeokoaaDoorWaysP
import Derived.Deep.CutRange
import Derived.Test.YtcidcadopeokoaaDoorIslands
import Derived.Test.YtcidcadopeokoaaDoorJoined
import Derived.Test.YtcidcadopeokoaaDoorAwake
import Derived.Test.YtcidcadopeokoaaDoorBig
import Derived.BigQuiet
namespace Go.Proofs.YtcidcadopeokoaaDoor
open Go.RowKit

/-- What the walk keeps: the marks are its own. -/
structure WR (w4 : World) (g : Nat) (V : List Bool) (wr : World) : Prop where
  l0 : Below w4.heap.size w4 wr
  b1 : BoolB wr g V
section
variable {w4 wr w' : World} {g : Nat} {V : List Bool}
theorem WR.next (h : WR w4 g V wr) (hb : Below wr.heap.size wr w') : WR w4 g V w' := ⟨below_after hb (Nat.le_refl _) h.l0, h.b1.below hb⟩
theorem WR.alloc (h : WR w4 g V wr) (o : Obj) : WR w4 g V (wr.alloc o) := h.next ((Below.refl _ _).alloc (Nat.le_refl _) _)
theorem WR.set_ (h : WR w4 g V wr) (hg : w4.heap.size ≤ g) (i : Nat) (x : Bool) : WR w4 g (V.set i x) (wr.setCell ⟨g, i, none⟩ (.bool x)) := ⟨h.l0.setCell hg _, h.b1.set_ _ _⟩
end
structure RelW (w4 : World) (g bx : Nat) (Vk : List Bool) (a b : Int) (W : World) (γ : Nat → Nat) : Prop where
  jr : WR w4 g (abV Vk a.toNat b.toNat (γ 0) (γ 1)) W
  x0 : W.cell? ⟨bx, 0, none⟩ = some (.int .i64 a)
  x1 : W.cell? ⟨bx, 1, none⟩ = some (.int .i64 b)
section
variable {w4 W : World} {g bx : Nat} {Vk : List Bool} {a b : Int} {γ : Nat → Nat}
theorem RelW.seta (h : RelW w4 g bx Vk a b W γ) (hg : w4.heap.size ≤ g) (hb : bx ≠ g) : RelW w4 g bx Vk a b (W.setCell ⟨g, a.toNat, none⟩ (.bool true)) (also γ 0 1) :=
  ⟨by have := h.jr.set_ hg a.toNat true; rw [abV_a] at this; exact this, far_cell h.x0 hb, far_cell h.x1 hb⟩
theorem RelW.setb (h : RelW w4 g bx Vk a b W γ) (hg : w4.heap.size ≤ g) (hb : bx ≠ g) : RelW w4 g bx Vk a b (W.setCell ⟨g, b.toNat, none⟩ (.bool true)) (also γ 1 1) :=
  ⟨by have := h.jr.set_ hg b.toNat true; rw [abV_b] at this; exact this, far_cell h.x0 hb, far_cell h.x1 hb⟩
end
/-- What the walk keeps behind the marks: the marks, and each bus's island. -/
structure XR (w4 : World) (g gi : Nat) (V : List Bool) (I : List Int) (wr : World) : Prop where
  l0 : Below w4.heap.size w4 wr
  b1 : BoolB wr g V
  b2 : IntB wr gi I
section
variable {w4 wr w' : World} {g gi : Nat} {V : List Bool} {I : List Int}
theorem XR.next (h : XR w4 g gi V I wr) (hb : Below wr.heap.size wr w') : XR w4 g gi V I w' := ⟨below_after hb (Nat.le_refl _) h.l0, h.b1.below hb, Blk.below h.b2 hb (Blk.lt h.b2)⟩
theorem XR.set_ (h : XR w4 g gi V I wr) (hg : w4.heap.size ≤ gi) (hn : g ≠ gi) (i : Nat) (x : Int) : XR w4 g gi V (I.set i x) (wr.setCell ⟨gi, i, none⟩ (.int .i64 x)) := ⟨h.l0.setCell hg _, Blk.far h.b1 hn _, h.b2.set_ _ _⟩
end
/-- An island of the answer. -/
theorem isle_at {H : List Int} {B : Nat} {F : List (Nat × Fin B)} {il : List Isle} (h : il.map Isle.two = islesOf H F) (k : Nat) (y : Isle) (hy : il[k]? = some y) : ∃ r, (rootsTo H B)[k]? = some r ∧ y.bl = busesTo H B r ∧ y.sl = srcsOf F r := by
  have h1 : (il.map Isle.two)[k]? = some y.two := by rw [List.getElem?_map, hy]; rfl
  rw [h] at h1
  unfold islesOf at h1
  rw [List.getElem?_map] at h1
  cases hr : (rootsTo H B)[k]? with
  | none => rw [hr] at h1; cases h1
  | some r =>
    rw [hr] at h1
    simp only [Option.map_some, Option.some.injEq] at h1
    exact ⟨r, rfl, (congrArg Prod.fst h1).symm, (congrArg Prod.snd h1).symm⟩
set_option maxRecDepth 100000 in
set_option maxHeartbeats 8000000 in
theorem ways_any (p : Plt) (s : Stt) (w : World) (hP : Pow w) (hp : PltIn w w.heap.size p) (hs : SttIn w w.heap.size s) :
    Calls Tryd.prog 3 #[p.val, s.val] w fun e w' => e = .returned (.bool true) ∧ Below w.heap.size w w' := by
  have AW := Lib.hid (fun W h => awake_any W h)
  have BIG := Lib.hid (fun W hp => big_any p W hp)
  have CS := Lib.hid (fun s W hp hs => checkState_any p s W hp hs)
  have LO0 : Lo w p s w.heap.size (w.heap.size + 1) ((w.alloc (.cells (pBox p) 26)).alloc (.cells (sBox s) 29)) := by
    have hb : Below w.heap.size w ((w.alloc (.cells (pBox p) 26)).alloc (.cells (sBox s) 29)) := by (repeat' (first | (with_reducible exact Below.refl _ _) | (with_reducible assumption) | (with_reducible refine below_drewN ?_ _) | (with_reducible refine below_after (by assumption) ?_ ?_) | (with_reducible refine Below.drew ?_) | (with_reducible refine Below.alloc ?_ ?_ _) | (with_reducible refine Below.setCell ?_ ?_ _) | omega | (simp; omega) | (simp; done)))
    refine ⟨hb, hp.next hb, hs.next hb, Blk.alloc (heap_alloc_new w _) _, ?_⟩
    have := heap_alloc_new (w.alloc (.cells (pBox p) 26)) (.cells (sBox s) 29)
    rw [World.size_alloc] at this
    exact this
  have HPow := Lib.hid hP
  have HPlt := Lib.hid hp
  have HStt := Lib.hid hs
  have HLO0 := Lib.hid LO0
  clear hP hp hs LO0
  unfold Plt.val Stt.val
  go_enter Tryd.func3, Tryd.ntmps3
  go_wp2_with fail
  refine (BIG.out _ HLO0.out.plt).mono ?_
  rintro e w1 ⟨rfl, hB1⟩
  have HLO1 := Lib.hid (HLO0.out.next hB1)
  clear hB1 HLO0
  obtain ⟨p0, p1, p2, p3⟩ := HLO1.out.pc
  obtain ⟨s0, s1, s2, s3, s4, s5, s6⟩ := sBox_cells HLO1.out.bs
  by_cases hq : bigP p = true
  · rw [hq]
    go_wp2_with fail
    refine (AW.out _ (HPow.out.below HLO1.out.low)).mono ?_
    rintro e w2 ⟨rfl, hB2⟩
    go_wp2_with fail
    go_ret
    exact ⟨rfl, below_after hB2 (Nat.le_refl _) HLO1.out.low⟩
  rw [show bigP p = false by simpa using hq]
  go_wp2_with fail
  refine (CS.out s _ HLO1.out.plt HLO1.out.stt).mono ?_
  rintro e w2 ⟨rfl, hB2⟩
  have HLO2 := Lib.hid (HLO1.out.next hB2)
  clear hB2 HLO1 p0 p1 p2 p3 s0 s1 s2 s3 s4 s5 s6
  obtain ⟨p0, p1, p2, p3⟩ := HLO2.out.pc
  by_cases hc : checkState p s = 0
  case neg =>
    go_wp2_with fail
    refine (AW.out _ (HPow.out.below HLO2.out.low)).mono ?_
    rintro e w3 ⟨rfl, hB3⟩
    go_wp2_with fail
    go_ret
    exact ⟨rfl, below_after hB3 (Nat.le_refl _) HLO2.out.low⟩
  rw [hc]
  obtain ⟨B, L, S⟩ := sound_of hc
  have hcp : check p = 0 := by
    unfold checkState at hc
    split at hc
    · assumption
    · rename_i h; exact absurd hc h
  obtain ⟨k1, k2, k3⟩ := check_small hcp HPlt.out
  have kB := S.small
  have hsz : Sized s := HStt.out.sized
  have LV := Lib.hid (fun W hp hs => live_ok p s B L S W hc hp hs)
  have IS := Lib.hid (fun W hp hs => islands_ok p s B L S (by omega) W hc hp hs)
  have HS := Lib.hid S
  have HC := Lib.hid hc
  have HZ := Lib.hid hsz
  have eB := S.buses
  have b1 := S.pos
  clear S hc hcp hsz
  unfold Plt.val Stt.val at LV IS
  rw [eB] at LV IS p0 ⊢
  obtain ⟨s0, s1, s2, s3, s4, s5, s6⟩ := sBox_cells HLO2.out.bs
  go_wp2_with fail
  refine (LV.out _ HLO2.out.plt HLO2.out.stt).mono ?_
  rintro e w3 ⟨gl, rfl, hB3, hgl, hLV⟩
  have HLO3 := Lib.hid (HLO2.out.next hB3)
  have HL3 := Lib.hid hLV
  clear hB3 HLO2 p0 p1 p2 p3 s0 s1 s2 s3 s4 s5 s6 hLV
  obtain ⟨p0, p1, p2, p3⟩ := HLO3.out.pc
  obtain ⟨s0, s1, s2, s3, s4, s5, s6⟩ := sBox_cells HLO3.out.bs
  rw [eB] at p0
  go_wp2_with fail
  refine (IS.out _ HLO3.out.plt HLO3.out.stt).mono ?_
  rintro e w4 ⟨il, iA, nI, cI, rfl, hB4, hII, hIe⟩
  have HLO4 := Lib.hid (HLO3.out.next hB4)
  have HL4 := Lib.hid (HL3.out.below hB4)
  have HI4 := Lib.hid hII
  have HIE := Lib.hid hIe
  clear hB4 HLO3 HL3 p0 p1 p2 p3 s0 s1 s2 s3 s4 s5 s6 hII hIe
  obtain ⟨p0, p1, p2, p3⟩ := HLO4.out.pc
  obtain ⟨s0, s1, s2, s3, s4, s5, s6⟩ := sBox_cells HLO4.out.bs
  rw [eB] at p0
  have m1 := run_makeBools B (by omega) w4
  go_wp2
  have JW0 : WR w4 w4.heap.size (noB B) (w4.alloc (.cells (Array.replicate B (.bool false)) 4)) := ⟨(Below.refl _ _).alloc (Nat.le_refl _) _, boolB_made w4 B⟩
  have JW := Lib.hid JW0
  clear m1 JW0 p0 p1 p2 p3 s0 s1 s2 s3 s4 s5 s6
  go_loopw [10, 11] (fun i _ wr => ∃ k : Nat, k ≤ p.sn ∧ i = .int .i64 k ∧ Hid (WR w4 w4.heap.size (wayTo B s p.srcs k) wr)) (fun i _ _ => p.sn - (intOf i).toNat)
  case atStart => exact ⟨0, by omega, rfl, JW⟩
  case round =>
    obtain ⟨k, hk, rfl, HJ⟩ := hrel
    have LOr := HLO4.out.next HJ.out.l0
    obtain ⟨p0, p1, p2, p3⟩ := LOr.pc
    obtain ⟨s0, s1, s2, s3, s4, s5, s6⟩ := sBox_cells LOr.bs
    have HLr := Lib.hid LOr
    clear LOr
    rw [eB] at p0
    by_cases hlt : k < p.sn
    ·
      -- <<A
      obtain ⟨b, off, x, e1, hb, hx, hcx⟩ := HLr.out.plt.src.at_ hlt
      obtain ⟨d0, -, -, -, -⟩ := Src.cells hcx
      obtain ⟨x0, xB⟩ := HS.out.srcs x (List.mem_of_getElem? hx)
      have hlen := HS.out.lens
      obtain ⟨g3, o3, a3, v3, r3⟩ := HLr.out.stt.on.at_ (k := k) (by rw [hlen.on]; exact hlt)
      obtain ⟨g4, o4, a4, v4, r4⟩ := HLr.out.stt.badSource.at_ (k := k) (by rw [hlen.badSource]; exact hlt)
      obtain ⟨g6, o6, a6, v6, r6⟩ := HLr.out.stt.badBus.at_ (k := x.bus.toNat) (by rw [hlen.badBus]; omega)
      rw [hlen.on] at s3
      rw [hlen.badSource] at s4
      rw [hlen.badBus] at s6
      rw [a3] at s3
      rw [a4] at s4
      rw [a6] at s6
      rw [e1] at p1
      have hsucc : Hid _ := Lib.hid (wayTo_succ B s p.srcs k x hx)
      obtain ⟨Vk, hVk⟩ : ∃ V, wayTo B s p.srcs k = V := ⟨_, rfl⟩
      have hVl : Vk.length = B := by rw [← hVk, wayTo_length]
      obtain ⟨u, hu⟩ : ∃ u, Vk[x.bus.toNat]? = some u := ⟨_, List.getElem?_eq_getElem (by omega)⟩
      rw [hVk] at HJ
      have cu := HJ.out.b1.cell hu
      have fu := Blk.frozen HJ.out.b1 x.bus.toNat
      have hk0 : (0 : Int) ≤ (k : Int) := by omega
      have hkn : (k : Int) < (p.sn : Int) := by omega
      obtain ⟨q3, h3⟩ : ∃ q, bit s.on k = q := ⟨_, rfl⟩
      obtain ⟨q4, h4⟩ : ∃ q, bit s.badSource k = q := ⟨_, rfl⟩
      obtain ⟨q6, h6⟩ : ∃ q, bit s.badBus x.bus.toNat = q := ⟨_, rfl⟩
      rw [h3] at r3
      rw [h4] at r4
      rw [h6] at r6
      have JX := Lib.hid (HJ.out.set_ (Nat.le_refl _) x.bus.toNat (u || (q3 && !q4 && !q6)))
      have hres : Hid (wayTo B s p.srcs (k + 1) = Vk.set x.bus.toNat (u || (q3 && !q4 && !q6))) := by
        have h := hsucc.out
        rw [hVk, h3, h4, h6] at h
        have hm : mk Vk x.bus.toNat = u := by unfold mk; rw [hu]; rfl
        rw [hm] at h
        exact h
      clear hx hcx e1 a3 a4 a6 hlen hsucc hVk hu h3 h4 h6
      cases u
      · cases q3
        · go_wp2
          go_roundw
          case rel => exact ⟨k + 1, by omega, by go_num, by rw [hres.out]; exact JX.out⟩
          case measure => simp [intOf]; omega
        · cases q4
          · cases q6
            · go_wp2
              go_roundw
              case rel => exact ⟨k + 1, by omega, by go_num, by rw [hres.out]; exact JX.out⟩
              case measure => simp [intOf]; omega
            · go_wp2
              go_roundw
              case rel => exact ⟨k + 1, by omega, by go_num, by rw [hres.out]; exact JX.out⟩
              case measure => simp [intOf]; omega
          · go_wp2
            go_roundw
            case rel => exact ⟨k + 1, by omega, by go_num, by rw [hres.out]; exact JX.out⟩
            case measure => simp [intOf]; omega
      · go_wp2
        go_roundw
        case rel => exact ⟨k + 1, by omega, by go_num, by rw [hres.out]; exact JX.out⟩
        case measure => simp [intOf]; omega
      -- >>A
    · obtain rfl : p.sn = k := by omega
      obtain ⟨V0, hV0⟩ : ∃ V, wayTo B s p.srcs p.sn = V := ⟨_, rfl⟩
      have hV0l : V0.length = B := by rw [← hV0, wayTo_length]
      rw [hV0] at HJ
      have HV0 := Lib.hid hV0
      clear hV0 p2 p3 s0 s1 s2 s3 s4 s5 s6 JW
      go_wp2
      clear p0 p1 HLr
      go_loopw [12] (fun i wr => ∃ m : Nat, m ≤ B ∧ i = .int .i64 m ∧ Hid (WR w4 w4.heap.size (rounds (conds s) L p.ln V0 m) wr)) (fun i _ => B - (intOf i).toNat)
      case atStart => exact ⟨0, by omega, rfl, HJ⟩
      case round =>
        obtain ⟨m, hm, rfl, HK⟩ := hrel
        have LOr := HLO4.out.next HK.out.l0
        obtain ⟨p0, p1, p2, p3⟩ := LOr.pc
        rw [eB] at p0
        clear LOr p1 p2 p3
        by_cases hlt : m < B
        ·
          -- <<B
          obtain ⟨Vm, hVm⟩ : ∃ V, rounds (conds s) L p.ln V0 m = V := ⟨_, rfl⟩
          have hVml : Vm.length = B := by rw [← hVm, rounds_length, hV0l]
          have hsucc : rounds (conds s) L p.ln V0 (m + 1) = relaxTo (conds s) L Vm p.ln := by rw [← hVm]; rfl
          rw [hVm] at HK
          have hm0 : (0 : Int) ≤ (m : Int) := by omega
          have hmn : (m : Int) < (B : Int) := by omega
          clear hVm
          go_wp2
          clear p0
          obtain ⟨wr0, e0⟩ : ∃ x, x = wr := ⟨wr, rfl⟩
          subst e0
          go_loopw [13] (fun i wr => ∃ k : Nat, k ≤ p.ln ∧ i = .int .i64 k ∧ Hid (WR w4 w4.heap.size (relaxTo (conds s) L Vm k) wr)) (fun i _ => p.ln - (intOf i).toNat)
          case atStart => exact ⟨0, by omega, rfl, HK⟩
          case round =>
            obtain ⟨k, hk, rfl, HI⟩ := hrel
            have HLr := Lib.hid (HLO4.out.next HI.out.l0)
            have P2 := HLr.out.pc.2.2.1
            by_cases hkl : k < p.ln
            · obtain ⟨b, off, x', e1, hb, hx, hcx⟩ := HLr.out.plt.lnk.at_ hkl
              rw [HS.out.lnks] at hx
              obtain ⟨y, hy⟩ : ∃ y, L[k]? = some y := by
                rw [List.getElem?_map] at hx
                cases h : L[k]? with
                | none => rw [h] at hx; cases hx
                | some y => exact ⟨y, rfl⟩
              rw [List.getElem?_map, hy] at hx
              simp only [Option.map_some, Option.some.injEq] at hx
              subst hx
              rw [e1] at P2
              obtain ⟨⟨x, hxa, hxb⟩, rfl⟩ : ∃ z, z = y := ⟨_, rfl⟩
              dsimp only at hcx
              obtain ⟨d0, d1, d2, d3, d4, d5⟩ := Lnk.cells hcx
              have hk0 : (0 : Int) ≤ (k : Int) := by omega
              have hkn : (k : Int) < (p.ln : Int) := by omega
              obtain ⟨xa0, xa1⟩ := hxa
              obtain ⟨xb0, xb1⟩ := hxb
              have HY := Lib.hid hy
              clear e1 hcx hy
              obtain ⟨Vk, hVk⟩ : ∃ V, relaxTo (conds s) L Vm k = V := ⟨_, rfl⟩
              have hVkl : Vk.length = B := by rw [← hVk, relaxTo_length, hVml]
              have hstep : Hid (relaxTo (conds s) L Vm (k + 1) = if conds s k x then relax1 Vk x.a.toNat x.b.toNat else Vk) := by
                show relaxTo (conds s) L Vm (k + 1) = _
                rw [← hVk]
                conv => lhs; unfold relaxTo
                rw [HY.out]
              rw [hVk] at HI
              obtain ⟨ka, hka⟩ : ∃ u, Vk[x.a.toNat]? = some u := ⟨_, List.getElem?_eq_getElem (by omega)⟩
              obtain ⟨kb, hkb⟩ : ∃ u, Vk[x.b.toNat]? = some u := ⟨_, List.getElem?_eq_getElem (by omega)⟩
              obtain ⟨cv, hcv⟩ : ∃ u, conds s k x = u := ⟨_, rfl⟩
              have hstep2 : Hid (relaxTo (conds s) L Vm (k + 1) = if cv && (ka != kb) then (Vk.set x.a.toNat true).set x.b.toNat true else Vk) := by
                have h : relaxTo (conds s) L Vm (k + 1) = if conds s k x then relax1 Vk x.a.toNat x.b.toNat else Vk := hstep
                show relaxTo (conds s) L Vm (k + 1) = _
                rw [h, hcv, relax1_ne _ _ _ (by omega) (by omega)]
                unfold mk
                rw [hka, hkb]
                cases cv <;> cases ka <;> cases kb <;> rfl
              have CDk := Lib.hid (fun W hp hs => conducts_any p s B L HS.out k _ HY.out W hp hs)
              unfold Plt.val Stt.val at CDk
              rw [eB] at CDk
              dsimp only at CDk
              rw [hcv] at CDk
              clear hstep hVk hcv
              go_wp2_with fail
              obtain ⟨wb, hwb⟩ : ∃ z, wr.alloc (.cells #[.int .i64 x.a, .int .i64 x.b, .int .i64 x.kind, .int .i64 x.most, .int .i64 x.ohm, .slice x.tA x.tn x.tc] 45) = z := ⟨_, rfl⟩
              have HLb0 := HLr.out.alloc (.cells #[.int .i64 x.a, .int .i64 x.b, .int .i64 x.kind, .int .i64 x.most, .int .i64 x.ohm, .slice x.tA x.tn x.tc] 45)
              have HIb0 := HI.out.alloc (.cells #[.int .i64 x.a, .int .i64 x.b, .int .i64 x.kind, .int .i64 x.most, .int .i64 x.ohm, .slice x.tA x.tn x.tc] 45)
              have HXb0 := heap_alloc_new wr (.cells #[.int .i64 x.a, .int .i64 x.b, .int .i64 x.kind, .int .i64 x.most, .int .i64 x.ohm, .slice x.tA x.tn x.tc] 45)
              have hbx : wr.heap.size ≠ w4.heap.size := Nat.ne_of_gt (Blk.lt HI.out.b1)
              have zb : wr.heap.size < wb.heap.size := by rw [← hwb]; simp
              rw [hwb] at HLb0 HIb0 HXb0 ⊢
              clear hwb P2 d0 d1 d2 d3 d4 d5
              have HXb : Hid (Blk wb wr.heap.size 45 #[.int .i64 x.a, .int .i64 x.b, .int .i64 x.kind, .int .i64 x.most, .int .i64 x.ohm, .slice x.tA x.tn x.tc]) := HXb0
              have X0 : wb.cell? ⟨wr.heap.size, 0, none⟩ = some (.int .i64 x.a) := HXb.out.cell 0
              have X1 : wb.cell? ⟨wr.heap.size, 1, none⟩ = some (.int .i64 x.b) := HXb.out.cell 1
              obtain ⟨p0, p1, p2, p3⟩ := HLb0.pc
              obtain ⟨s0, s1, s2, s3, s4, s5, s6⟩ := sBox_cells HLb0.bs
              rw [eB] at p0
              have Y2 := HIb0.b1.cell hka
              have Y3 := HIb0.b1.cell hkb
              have HLb := Lib.hid HLb0
              have HIb := Lib.hid HIb0
              clear HLb0 HIb0 HXb0 hka hkb
              have CR := Lib.hid (fun d os => CDk.out (Go.Sort.grow (redrawn wb d) os) (HLb.out.plt.next (below_regrown wb d os)) (HLb.out.stt.next (below_regrown wb d os)))
              have rp0 := cell_regrown p0
              have rp1 := cell_regrown p1
              have rp2 := cell_regrown p2
              have rp3 := cell_regrown p3
              have rs0 := cell_regrown s0
              have rs1 := cell_regrown s1
              have rs2 := cell_regrown s2
              have rs3 := cell_regrown s3
              have rs4 := cell_regrown s4
              have rs5 := cell_regrown s5
              have rs6 := cell_regrown s6
              have rX0 := cell_regrown X0
              have rX1 := cell_regrown X1
              have rY2 := cell_regrown Y2
              have rY3 := cell_regrown Y3
              clear p0 p1 p2 p3 s0 s1 s2 s3 s4 s5 s6 Y2 Y3
              cases cv
              · as_aux_lemma =>
                  refine wp_region_quiet_below (by kernel_rfl) (by kernel_rfl) ?_
                  repeat (go_big_quiet_step (exact Calls.regrown_of (CR.out _ _)))
                  refine wpQuiet_nil ?_
                  intro _ hw'
                  obtain ⟨⟨dq, osq⟩, hw''⟩ := hw'
                  subst hw''
                  have HF := Lib.hid (HIb.out.next (below_regrown wb dq osq))
                  have X0 : (Go.Sort.grow (redrawn wb dq) osq).cell? ⟨wr.heap.size, 0, none⟩ = some (.int .i64 x.a) := cell_regrown X0 dq osq
                  have X1 : (Go.Sort.grow (redrawn wb dq) osq).cell? ⟨wr.heap.size, 1, none⟩ = some (.int .i64 x.b) := cell_regrown X1 dq osq
                  clear rp0 rp1 rp2 rp3 rs0 rs1 rs2 rs3 rs4 rs5 rs6 rX0 rX1 rY2 rY3 CR CDk
                  obtain ⟨w5, hw5⟩ : ∃ z, Go.Sort.grow (redrawn wb dq) osq = z := ⟨_, rfl⟩
                  rw [hw5] at HF X0 X1 ⊢
                  clear hw5
                  have e := hstep2.out
                  simp at e
                  go_wp2
                  go_roundw
                  case rel => exact ⟨k + 1, by omega, by go_num, by rw [e]; exact HF.out⟩
                  case measure => simp [intOf]; omega
              · cases ka
                · cases kb
                  · as_aux_lemma =>
                      refine wp_region_quiet_below (by kernel_rfl) (by kernel_rfl) ?_
                      repeat (go_big_quiet_step (exact Calls.regrown_of (CR.out _ _)))
                      refine wpQuiet_nil ?_
                      intro _ hw'
                      obtain ⟨⟨dq, osq⟩, hw''⟩ := hw'
                      subst hw''
                      have HF := Lib.hid (HIb.out.next (below_regrown wb dq osq))
                      have X0 : (Go.Sort.grow (redrawn wb dq) osq).cell? ⟨wr.heap.size, 0, none⟩ = some (.int .i64 x.a) := cell_regrown X0 dq osq
                      have X1 : (Go.Sort.grow (redrawn wb dq) osq).cell? ⟨wr.heap.size, 1, none⟩ = some (.int .i64 x.b) := cell_regrown X1 dq osq
                      clear rp0 rp1 rp2 rp3 rs0 rs1 rs2 rs3 rs4 rs5 rs6 rX0 rX1 rY2 rY3 CR CDk
                      obtain ⟨w5, hw5⟩ : ∃ z, Go.Sort.grow (redrawn wb dq) osq = z := ⟨_, rfl⟩
                      rw [hw5] at HF X0 X1 ⊢
                      clear hw5
                      have e := hstep2.out
                      simp at e
                      go_wp2
                      go_roundw
                      case rel => exact ⟨k + 1, by omega, by go_num, by rw [e]; exact HF.out⟩
                      case measure => simp [intOf]; omega
                  · as_aux_lemma =>
                      refine wp_region_quiet_below (by kernel_rfl) (by kernel_rfl) ?_
                      repeat (go_big_quiet_step (exact Calls.regrown_of (CR.out _ _)))
                      refine wpQuiet_nil ?_
                      intro _ hw'
                      obtain ⟨⟨dq, osq⟩, hw''⟩ := hw'
                      subst hw''
                      have HF := Lib.hid (HIb.out.next (below_regrown wb dq osq))
                      have X0 : (Go.Sort.grow (redrawn wb dq) osq).cell? ⟨wr.heap.size, 0, none⟩ = some (.int .i64 x.a) := cell_regrown X0 dq osq
                      have X1 : (Go.Sort.grow (redrawn wb dq) osq).cell? ⟨wr.heap.size, 1, none⟩ = some (.int .i64 x.b) := cell_regrown X1 dq osq
                      clear rp0 rp1 rp2 rp3 rs0 rs1 rs2 rs3 rs4 rs5 rs6 rX0 rX1 rY2 rY3 CR CDk
                      obtain ⟨w5, hw5⟩ : ∃ z, Go.Sort.grow (redrawn wb dq) osq = z := ⟨_, rfl⟩
                      rw [hw5] at HF X0 X1 ⊢
                      clear hw5
                      have e := hstep2.out
                      simp at e
                      go_wp2
                      refine wp_region_free6 [some 138, some 139, some 140, some 141, some 142, some 143, some 144, none, some 145, none] [[], [], [1], [], [], [4], [0, 2, 0, 1, 2], [6, 0, 1, 2], [3, 5, 0, 1, 2, 3, 4, 5, 6, 7], [8, 7, 0, 1, 2, 3, 4, 5, 6, 7]] [(9, .slice (some ⟨w4.heap.size, 0, none⟩) B B), (14, .pointer (some ⟨wr.heap.size, 0, none⟩))] (RelW w4 w4.heap.size wr.heap.size Vk x.a x.b) (relPhi w4.heap.size wr.heap.size B x.a x.b) (by kernel_rfl) (by kernel_rfl) rfl (by kernel_rfl) ?_ ?_ ⟨fun _ => 0, ?_⟩ ?_ ?_
                      · intro z hz
                        simp only [List.mem_cons, List.mem_nil_iff, or_false] at hz
                        rcases hz with rfl | rfl
                        · exact ⟨rfl, rfl⟩
                        · exact ⟨rfl, rfl⟩
                      · intro i v W γ hi h
                        rcases i with _ | _ | _ | _ | _ | _ | _ | _ | _ | _ | i
                        all_goals first | exact h | (simp at hi)
                      · exact ⟨HF.out.next (Below.refl _ _).drew, X0, X1⟩
                      · refine ⟨?_, ?_, ?_, ?_, ?_, ?_, ?_, ?_, ?_, ?_, trivial⟩
                        all_goals
                          intro a W γ ev hc hf hfx hR hpre K hK
                          simp only [List.mem_cons, List.mem_nil_iff, or_false, forall_eq, forall_eq_or_imp] at hfx
                          obtain ⟨f1, f2⟩ := hfx
                          have Z0 := hR.x0
                          have Z1 := hR.x1
                          have HR := Lib.hid hR
                          clear hR
                        · go_simp
                          exact hK _ _ _ HR.out (fun _ _ _ _ h => h) rfl
                        · go_simp
                          exact hK _ _ _ HR.out (fun _ _ _ _ h => h) rfl
                        · have q1 : ev (.tmp 139) = _ := hpre 1 (by decide)
                          clear hpre
                          go_simp
                          exact hK _ _ _ HR.out (fun _ _ _ _ h => h) rfl
                        · go_simp
                          exact hK _ _ _ HR.out (fun _ _ _ _ h => h) rfl
                        · go_simp
                          exact hK _ _ _ HR.out (fun _ _ _ _ h => h) rfl
                        · have q1 : ev (.tmp 142) = _ := hpre 4 (by decide)
                          clear hpre
                          go_simp
                          exact hK _ _ _ HR.out (fun _ _ _ _ h => h) rfl
                        · have q1 : ev (.tmp 138) = _ := hpre 0 (by decide)
                          have q2 : ev (.tmp 140) = _ := hpre 2 (by decide)
                          clear hpre
                          go_simp
                          exact hK _ _ _ HR.out (fun _ _ _ _ h => h) rfl
                        · have q1 : ev (.tmp 144) = _ := hpre 6 (by decide)
                          obtain ⟨u, cu⟩ : ∃ u : Bool, W.cell? ⟨w4.heap.size, x.a.toNat, none⟩ = some (.bool u) := ⟨_, HR.out.jr.b1.cell (List.getElem?_eq_getElem (by rw [abV_length]; omega))⟩
                          have fu := Blk.frozen HR.out.jr.b1 x.a.toNat
                          clear hpre
                          go_simp
                          exact hK undef _ (also γ 0 1) (HR.out.seta (Nat.le_refl _) hbx) (fun j u _ _ => relPhi_kept 0 j u) (also_same _ _ _)
                        · have q1 : ev (.tmp 141) = _ := hpre 3 (by decide)
                          have q2 : ev (.tmp 143) = _ := hpre 5 (by decide)
                          clear hpre
                          go_simp
                          exact hK _ _ _ HR.out (fun _ _ _ _ h => h) rfl
                        · have q1 : ev (.tmp 145) = _ := hpre 8 (by decide)
                          obtain ⟨u, cu⟩ : ∃ u : Bool, W.cell? ⟨w4.heap.size, x.b.toNat, none⟩ = some (.bool u) := ⟨_, HR.out.jr.b1.cell (List.getElem?_eq_getElem (by rw [abV_length]; omega))⟩
                          have fu := Blk.frozen HR.out.jr.b1 x.b.toNat
                          clear hpre
                          go_simp
                          exact hK undef _ (also γ 1 1) (HR.out.setb (Nat.le_refl _) hbx) (fun j u _ _ => relPhi_kept 1 j u) (also_same _ _ _)
                      · intro vs w6 γ hvl hR hφ
                        have h7 : γ 0 = 1 := hφ 7 (by decide)
                        have h9 : γ 1 = 1 := hφ 9 (by decide)
                        have HD := hR.jr
                        rw [h7, h9, abV_one] at HD
                        have HD := Lib.hid HD
                        clear hφ hR
                        match vs, hvl with
                        | [z0, z1, z2, z3, z4, z5, z6, z7, z8, z9], _ =>
                        simp [putAll]
                        go_wp2
                        go_roundw
                        case rel => exact ⟨k + 1, by omega, by go_num, by rw [e]; exact HD.out⟩
                        case measure => simp [intOf]; omega
                · cases kb
                  · as_aux_lemma =>
                      refine wp_region_quiet_below (by kernel_rfl) (by kernel_rfl) ?_
                      repeat (go_big_quiet_step (exact Calls.regrown_of (CR.out _ _)))
                      refine wpQuiet_nil ?_
                      intro _ hw'
                      obtain ⟨⟨dq, osq⟩, hw''⟩ := hw'
                      subst hw''
                      have HF := Lib.hid (HIb.out.next (below_regrown wb dq osq))
                      have X0 : (Go.Sort.grow (redrawn wb dq) osq).cell? ⟨wr.heap.size, 0, none⟩ = some (.int .i64 x.a) := cell_regrown X0 dq osq
                      have X1 : (Go.Sort.grow (redrawn wb dq) osq).cell? ⟨wr.heap.size, 1, none⟩ = some (.int .i64 x.b) := cell_regrown X1 dq osq
                      clear rp0 rp1 rp2 rp3 rs0 rs1 rs2 rs3 rs4 rs5 rs6 rX0 rX1 rY2 rY3 CR CDk
                      obtain ⟨w5, hw5⟩ : ∃ z, Go.Sort.grow (redrawn wb dq) osq = z := ⟨_, rfl⟩
                      rw [hw5] at HF X0 X1 ⊢
                      clear hw5
                      have e := hstep2.out
                      simp at e
                      go_wp2
                      refine wp_region_free6 [some 138, some 139, some 140, some 141, some 142, some 143, some 144, none, some 145, none] [[], [], [1], [], [], [4], [0, 2, 0, 1, 2], [6, 0, 1, 2], [3, 5, 0, 1, 2, 3, 4, 5, 6, 7], [8, 7, 0, 1, 2, 3, 4, 5, 6, 7]] [(9, .slice (some ⟨w4.heap.size, 0, none⟩) B B), (14, .pointer (some ⟨wr.heap.size, 0, none⟩))] (RelW w4 w4.heap.size wr.heap.size Vk x.a x.b) (relPhi w4.heap.size wr.heap.size B x.a x.b) (by kernel_rfl) (by kernel_rfl) rfl (by kernel_rfl) ?_ ?_ ⟨fun _ => 0, ?_⟩ ?_ ?_
                      · intro z hz
                        simp only [List.mem_cons, List.mem_nil_iff, or_false] at hz
                        rcases hz with rfl | rfl
                        · exact ⟨rfl, rfl⟩
                        · exact ⟨rfl, rfl⟩
                      · intro i v W γ hi h
                        rcases i with _ | _ | _ | _ | _ | _ | _ | _ | _ | _ | i
                        all_goals first | exact h | (simp at hi)
                      · exact ⟨HF.out.next (Below.refl _ _).drew, X0, X1⟩
                      · refine ⟨?_, ?_, ?_, ?_, ?_, ?_, ?_, ?_, ?_, ?_, trivial⟩
                        all_goals
                          intro a W γ ev hc hf hfx hR hpre K hK
                          simp only [List.mem_cons, List.mem_nil_iff, or_false, forall_eq, forall_eq_or_imp] at hfx
                          obtain ⟨f1, f2⟩ := hfx
                          have Z0 := hR.x0
                          have Z1 := hR.x1
                          have HR := Lib.hid hR
                          clear hR
                        · go_simp
                          exact hK _ _ _ HR.out (fun _ _ _ _ h => h) rfl
                        · go_simp
                          exact hK _ _ _ HR.out (fun _ _ _ _ h => h) rfl
                        · have q1 : ev (.tmp 139) = _ := hpre 1 (by decide)
                          clear hpre
                          go_simp
                          exact hK _ _ _ HR.out (fun _ _ _ _ h => h) rfl
                        · go_simp
                          exact hK _ _ _ HR.out (fun _ _ _ _ h => h) rfl
                        · go_simp
                          exact hK _ _ _ HR.out (fun _ _ _ _ h => h) rfl
                        · have q1 : ev (.tmp 142) = _ := hpre 4 (by decide)
                          clear hpre
                          go_simp
                          exact hK _ _ _ HR.out (fun _ _ _ _ h => h) rfl
                        · have q1 : ev (.tmp 138) = _ := hpre 0 (by decide)
                          have q2 : ev (.tmp 140) = _ := hpre 2 (by decide)
                          clear hpre
                          go_simp
                          exact hK _ _ _ HR.out (fun _ _ _ _ h => h) rfl
                        · have q1 : ev (.tmp 144) = _ := hpre 6 (by decide)
                          obtain ⟨u, cu⟩ : ∃ u : Bool, W.cell? ⟨w4.heap.size, x.a.toNat, none⟩ = some (.bool u) := ⟨_, HR.out.jr.b1.cell (List.getElem?_eq_getElem (by rw [abV_length]; omega))⟩
                          have fu := Blk.frozen HR.out.jr.b1 x.a.toNat
                          clear hpre
                          go_simp
                          exact hK undef _ (also γ 0 1) (HR.out.seta (Nat.le_refl _) hbx) (fun j u _ _ => relPhi_kept 0 j u) (also_same _ _ _)
                        · have q1 : ev (.tmp 141) = _ := hpre 3 (by decide)
                          have q2 : ev (.tmp 143) = _ := hpre 5 (by decide)
                          clear hpre
                          go_simp
                          exact hK _ _ _ HR.out (fun _ _ _ _ h => h) rfl
                        · have q1 : ev (.tmp 145) = _ := hpre 8 (by decide)
                          obtain ⟨u, cu⟩ : ∃ u : Bool, W.cell? ⟨w4.heap.size, x.b.toNat, none⟩ = some (.bool u) := ⟨_, HR.out.jr.b1.cell (List.getElem?_eq_getElem (by rw [abV_length]; omega))⟩
                          have fu := Blk.frozen HR.out.jr.b1 x.b.toNat
                          clear hpre
                          go_simp
                          exact hK undef _ (also γ 1 1) (HR.out.setb (Nat.le_refl _) hbx) (fun j u _ _ => relPhi_kept 1 j u) (also_same _ _ _)
                      · intro vs w6 γ hvl hR hφ
                        have h7 : γ 0 = 1 := hφ 7 (by decide)
                        have h9 : γ 1 = 1 := hφ 9 (by decide)
                        have HD := hR.jr
                        rw [h7, h9, abV_one] at HD
                        have HD := Lib.hid HD
                        clear hφ hR
                        match vs, hvl with
                        | [z0, z1, z2, z3, z4, z5, z6, z7, z8, z9], _ =>
                        simp [putAll]
                        go_wp2
                        go_roundw
                        case rel => exact ⟨k + 1, by omega, by go_num, by rw [e]; exact HD.out⟩
                        case measure => simp [intOf]; omega
                  · as_aux_lemma =>
                      refine wp_region_quiet_below (by kernel_rfl) (by kernel_rfl) ?_
                      repeat (go_big_quiet_step (exact Calls.regrown_of (CR.out _ _)))
                      refine wpQuiet_nil ?_
                      intro _ hw'
                      obtain ⟨⟨dq, osq⟩, hw''⟩ := hw'
                      subst hw''
                      have HF := Lib.hid (HIb.out.next (below_regrown wb dq osq))
                      have X0 : (Go.Sort.grow (redrawn wb dq) osq).cell? ⟨wr.heap.size, 0, none⟩ = some (.int .i64 x.a) := cell_regrown X0 dq osq
                      have X1 : (Go.Sort.grow (redrawn wb dq) osq).cell? ⟨wr.heap.size, 1, none⟩ = some (.int .i64 x.b) := cell_regrown X1 dq osq
                      clear rp0 rp1 rp2 rp3 rs0 rs1 rs2 rs3 rs4 rs5 rs6 rX0 rX1 rY2 rY3 CR CDk
                      obtain ⟨w5, hw5⟩ : ∃ z, Go.Sort.grow (redrawn wb dq) osq = z := ⟨_, rfl⟩
                      rw [hw5] at HF X0 X1 ⊢
                      clear hw5
                      have e := hstep2.out
                      simp at e
                      go_wp2
                      go_roundw
                      case rel => exact ⟨k + 1, by omega, by go_num, by rw [e]; exact HF.out⟩
                      case measure => simp [intOf]; omega
            · obtain rfl : p.ln = k := by omega
              go_wp2
              go_roundw
              case rel => exact ⟨m + 1, by omega, by go_num, by rw [hsucc]; exact HI.out⟩
              case measure => simp [intOf]; omega
          -- >>B
        · obtain rfl : B = m := by omega
          obtain ⟨VB, hVB⟩ : ∃ V, rounds (conds s) L p.ln V0 B = V := ⟨_, rfl⟩
          have hVBl : VB.length = B := by rw [← hVB, rounds_length, hV0l]
          rw [hVB] at HK
          have HVB := Lib.hid hVB
          have m2 := run_makeInts B (by omega) wr
          have gne : w4.heap.size ≠ wr.heap.size := Nat.ne_of_lt (Blk.lt HK.out.b1)
          have gle : w4.heap.size ≤ wr.heap.size := HK.out.l0.size
          have JI0 : Hid (∃ I, XR w4 w4.heap.size wr.heap.size VB I (wr.alloc (.cells (nums (List.replicate B 0)) 3)) ∧ InOk (homeL p s L) (rootsTo (homeL p s L) B) 0 0 I) := by
            refine ⟨List.replicate B 0, ⟨HK.out.l0.alloc gle _, HK.out.b1.alloc _, ?_⟩, ?_⟩
            · have h := heap_alloc_new wr (.cells (nums (List.replicate B 0)) 3)
              have e : nums (List.replicate B 0) = ints (List.replicate B 0) := by unfold nums ints; simp
              rw [e] at h ⊢
              exact h
            · have h := InOk.start (homeL p s L) (rootsTo (homeL p s L) B)
              rwa [(homeL_isls p s L).1] at h
          clear hVB
          go_wp2
          obtain ⟨gi, hgi⟩ : ∃ x, wr.heap.size = x := ⟨_, rfl⟩
          rw [hgi] at gle gne JI0 ⊢
          clear m2 p0 hgi
          have hnR : (rootsTo (homeL p s L) B).length = nI := by
            have h1 := congrArg List.length HIE.out
            unfold islesOf at h1
            rw [List.length_map, List.length_map] at h1
            rw [← h1]
            exact HI4.out.rd.1
          have hn24 : nI ≤ 24 := by
            rw [← hnR]
            have := rootsTo_length (homeL p s L) B
            omega
          have HNR := Lib.hid hnR
          clear hnR
          go_loopw [16] (fun i wr => ∃ k : Nat, k ≤ nI ∧ i = .int .i64 k ∧ Hid (∃ I, XR w4 w4.heap.size gi VB I wr ∧ InOk (homeL p s L) (rootsTo (homeL p s L) B) k 0 I)) (fun i _ => nI - (intOf i).toNat)
          case atStart => exact ⟨0, by omega, rfl, JI0⟩
          case round =>
            obtain ⟨k, hk, rfl, HX⟩ := hrel
            obtain ⟨I, hXR, hIO⟩ := HX.out
            have HXR := Lib.hid hXR
            have HIO := Lib.hid hIO
            clear HX hXR hIO
            have hII : Hid (IslesIn wr wr.heap.size iA nI il) := HI4.out.next HXR.out.l0
            by_cases hkI : k < nI
            · obtain ⟨b, off, y, e1, hb, hy, hcy⟩ := hII.out.rd.at_ hkI
              obtain ⟨c0, c1⟩ := Isle.cells hcy
              obtain ⟨r, hr, hyb, hys⟩ := isle_at HIE.out k y hy
              have h0 := busesTo_head (homesOk p s L) (List.mem_of_getElem? hr)
              rw [← hyb] at h0
              obtain ⟨hYr, hYf⟩ := hII.out.bus y (List.mem_of_getElem? hy)
              have hy0 : 0 < y.bn := by rw [← hYr.1]; exact (List.getElem?_eq_some_iff.1 h0).1
              obtain ⟨b1', off1, z, e2, hb1, hz, hcz⟩ := hYr.at_ hy0
              obtain rfl : (r : Int) = z := by rw [h0] at hz; exact Option.some.inj hz
              have cz := cellI hcz
              simp only [Nat.add_zero] at cz
              have HYR := Lib.hid hYr
              have HR0 := Lib.hid hr
              have HYB := Lib.hid hyb
              have HYS := Lib.hid hys
              have HY := Lib.hid hy
              have hy0' : ¬ ((y.bn : Int) = 0) := by omega
              have hyp : (0 : Int) < (y.bn : Int) := by omega
              have hyd : decide (y.bn = 0) = false := by simp; omega
              have hyd2 : ((y.bn : Int) == 0) = false := by simp; omega
              have hyd3 : decide ((y.bn : Int) = 0) = false := by simp; omega
              have hyn : ¬ (y.bn = 0) := by omega
              have hk0 : (0 : Int) ≤ (k : Int) := by omega
              have hkn : (k : Int) < (nI : Int) := by omega
              subst e1
              rw [e2] at c0
              clear hcy hr hyb hys h0 hYr hz hcz hy
              go_upto_region 27 with fail
              go_cut [180] from 160 to 180 (fun t wc' => t = .bool false ∧ ∃ q, wc' = wr.drewN q)
              case first =>
                -- <<C
                by_cases hkz : k = 0
                · have hkg : ¬ ((0 : Int) < (k : Int)) := by omega
                  have hkd : decide (0 < k) = false := by simp; omega
                  have hkd2 : decide ((0 : Int) < (k : Int)) = false := by simp; omega
                  have hkd3 : decide ((k : Int) > (0 : Int)) = false := by simp; omega
                  clear hkz
                  as_aux_lemma =>
                    go_quiet (fail)
                    go_wp2_with fail
                    go_meet
                    exact ⟨rfl, _, rfl⟩
                · have hkg : (0 : Int) < (k : Int) := by omega
                  have hkd : decide (0 < k) = true := by simp; omega
                  have hkd2 : decide ((0 : Int) < (k : Int)) = true := by simp; omega
                  obtain ⟨b', off', y', e1', hb', hy', hcy'⟩ := hII.out.rd.at_ (k := k - 1) (by omega)
                  cases e1'
                  obtain ⟨c0', -⟩ := Isle.cells hcy'
                  obtain ⟨r', hr', hyb', -⟩ := isle_at HIE.out (k - 1) y' hy'
                  have h0' := busesTo_head (homesOk p s L) (List.mem_of_getElem? hr')
                  rw [← hyb'] at h0'
                  obtain ⟨hYr', -⟩ := hII.out.bus y' (List.mem_of_getElem? hy')
                  have hy0'' : 0 < y'.bn := by rw [← hYr'.1]; exact (List.getElem?_eq_some_iff.1 h0').1
                  obtain ⟨b2', off2, z, e2', hb2, hz, hcz'⟩ := hYr'.at_ hy0''
                  obtain rfl : (r' : Int) = z := by rw [h0'] at hz; exact Option.some.inj hz
                  have cz' := cellI hcz'
                  simp only [Nat.add_zero] at cz'
                  rw [e2'] at c0'
                  have hrr : r' < r := by
                    obtain ⟨l1, x1⟩ := List.getElem?_eq_some_iff.1 hr'
                    obtain ⟨l2, x2⟩ := List.getElem?_eq_some_iff.1 HR0.out
                    have := List.pairwise_iff_getElem.1 (rootsTo_sorted (homeL p s L) B) (k - 1) k l1 l2 (by omega)
                    omega
                  have hge : ¬ ((r : Int) ≤ (r' : Int)) := by omega
                  have hged : decide ((r : Int) ≤ (r' : Int)) = false := by simp; omega
                  have hged2 : decide (r ≤ r') = false := by simp; omega
                  have hge2 : ¬ (r ≤ r') := by omega
                  have nfit := hII.out.fit
                  have hw1 : IntKind.i64.wrap ((k : Int) - 1) = (k : Int) - 1 := IntWalk.i64_in _ (by omega)
                  have hw2 : ((k : Int) - 1).toNat = k - 1 := by omega
                  have hw3 : (0 : Int) ≤ (k : Int) - 1 := by omega
                  have hw4 : (k : Int) - 1 < (nI : Int) := by omega
                  have hyp' : (0 : Int) < (y'.bn : Int) := by omega
                  clear hcy' hr' hyb' h0' hYr' hz hcz' hy'
                  as_aux_lemma =>
                    go_quiet (fail)
                    go_wp2_with fail
                    go_meet
                    exact ⟨rfl, _, rfl⟩
                -- >>C
              case rest =>
                obtain ⟨rfl, q, rfl⟩ := hcut
                have HXQ := Lib.hid (HXR.out.next (below_drewN (Below.refl wr.heap.size wr) q))
                obtain ⟨wq, hwq⟩ : ∃ z, wr.drewN q = z := ⟨_, rfl⟩
                rw [hwq] at HXQ ⊢
                have hyl : y.bn ≤ 24 := by
                  rw [← HYR.out.1, HYB.out]
                  have := busesTo_length (homeL p s L) B r
                  omega
                have HE2 := Lib.hid e2
                clear hwq c0 c1 cz HXR HYR hII hy0' hyp hyd hyd2 hyd3 hyn e2
                go_wp2
                have HX0 : Hid (∃ I, XR w4 w4.heap.size gi VB I wq ∧ InOk (homeL p s L) (rootsTo (homeL p s L) B) k 0 I) := ⟨I, HXQ.out, HIO.out⟩
                clear HXQ HIO
                go_loopw [18] (fun i wr => ∃ n : Nat, n ≤ y.bn ∧ i = .int .i64 n ∧ Hid (∃ I, XR w4 w4.heap.size gi VB I wr ∧ InOk (homeL p s L) (rootsTo (homeL p s L) B) k n I)) (fun i _ => y.bn - (intOf i).toNat)
                case atStart => exact ⟨0, by omega, rfl, HX0⟩
                case round =>
                  clear HX0
                  obtain ⟨n, hn, rfl, HX⟩ := hrel
                  obtain ⟨I, hXR, hIO⟩ := HX.out
                  have HXR := Lib.hid hXR
                  have HIO := Lib.hid hIO
                  clear HX hXR hIO
                  have hYr : Rd wr wr.heap.size 1 encI y.bA y.bn y.bl := ((HI4.out.next HXR.out.l0).bus y (List.mem_of_getElem? HY.out)).1
                  by_cases hln : n < y.bn
                  ·
                    -- <<D
                    obtain ⟨b2, off2, z, e3, hb2, hz, hcz⟩ := hYr.at_ hln
                    rw [HE2.out] at e3
                    cases e3
                    have hzB := hz
                    rw [HYB.out] at hzB
                    obtain ⟨c, hcB, hcr, rfl⟩ := mem_busesTo.1 (List.mem_of_getElem? hzB)
                    have hbad := ((home_iff p s L c r hcB).1 hcr).1
                    have LOr := HLO4.out.next HXR.out.l0
                    obtain ⟨p0, -, -, -⟩ := LOr.pc
                    rw [eB] at p0
                    obtain ⟨-, -, -, -, -, -, s6⟩ := sBox_cells LOr.bs
                    obtain ⟨g6, o6, a6, v6, r6⟩ := LOr.stt.badBus.at_ (k := c) (by rw [HS.out.lens.badBus]; exact hcB)
                    rw [HS.out.lens.badBus, a6] at s6
                    rw [hbad] at r6
                    have hHl : (homeL p s L).length = B := (homeL_isls p s L).1
                    have hfr := HIO.out.fresh HR0.out (by rw [hHl]; exact hzB)
                    simp only [Int.toNat_natCast] at hfr
                    have ci := HXR.out.b2.cell hfr
                    have fi := HXR.out.b2.frozen c
                    have cz := cellI hcz
                    have hIl : I.length = B := HIO.out.len.trans hHl
                    have hput := HIO.out.put (rootsTo_nodup _ _) HR0.out (by rw [hHl]; exact hzB)
                    simp only [Int.toNat_natCast] at hput
                    have HPut := Lib.hid hput
                    have HST : Hid (∀ q, XR w4 w4.heap.size gi VB (I.set c ((k : Int) + 1)) ((wr.drewN q).setCell ⟨gi, c, none⟩ (.int .i64 ((k : Int) + 1)))) := fun q => (HXR.out.next (below_drewN (Below.refl wr.heap.size wr) q)).set_ gle gne c _
                    have hn0 : (0 : Int) ≤ (n : Int) := by omega
                    have hnn : (n : Int) < (y.bn : Int) := by omega
                    have hc0 : (0 : Int) ≤ (c : Int) := by omega
                    have hc1 : (c : Int) < (B : Int) := by omega
                    have hd1 : decide ((c : Int) < 0) = false := by rw [decide_eq_false_iff_not]; omega
                    have hd2 : decide ((B : Int) ≤ (c : Int)) = false := by simp; omega
                    have hd3 : decide (B ≤ c) = false := by simp; omega
                    have hd4 : ¬ ((c : Int) < 0) := by omega
                    have hd5 : ¬ ((B : Int) ≤ (c : Int)) := by omega
                    have hw1 : IntKind.i64.wrap ((k : Int) + 1) = (k : Int) + 1 := IntWalk.i64_in _ (by omega)
                    have hk1 : (0 : Int) ≤ (k : Int) + 1 := by omega
                    by_cases hnz : n = 0
                    · have hng : ¬ ((0 : Int) < (n : Int)) := by omega
                      have hnd : decide (0 < n) = false := by simp; omega
                      have hnd2 : decide ((0 : Int) < (n : Int)) = false := by simp; omega
                      clear hput hYr hz hcz hzB hcr hbad LOr a6 hHl hfr hnz
                      as_aux_lemma =>
                        go_wp2
                        go_quiet (fail)
                        go_wp2
                        go_roundw
                        case rel => exact ⟨n + 1, by omega, by go_num, _, HST.out _, HPut.out⟩
                        case measure => simp [intOf]; omega
                    · have hng : (0 : Int) < (n : Int) := by omega
                      have hnd : decide (0 < n) = true := by simp; omega
                      have hnd2 : decide ((0 : Int) < (n : Int)) = true := by simp; omega
                      obtain ⟨b2, off2, z, e3, hb2, hz2, hcz2⟩ := hYr.at_ (k := n - 1) (by omega)
                      rw [HE2.out] at e3
                      cases e3
                      have hzB2 := hz2
                      rw [HYB.out] at hzB2
                      obtain ⟨c2, -, -, rfl⟩ := mem_busesTo.1 (List.mem_of_getElem? hzB2)
                      have cz2 := cellI hcz2
                      have hcc : c2 < c := by
                        obtain ⟨l1, x1⟩ := List.getElem?_eq_some_iff.1 hzB2
                        obtain ⟨l2, x2⟩ := List.getElem?_eq_some_iff.1 hzB
                        have := List.pairwise_iff_getElem.1 (busesTo_sorted (homeL p s L) B r) (n - 1) n l1 l2 (by omega)
                        omega
                      have hge : ¬ ((c : Int) ≤ (c2 : Int)) := by omega
                      have hged : decide ((c : Int) ≤ (c2 : Int)) = false := by simp; omega
                      have hged2 : decide (c ≤ c2) = false := by simp; omega
                      have hge2 : ¬ (c ≤ c2) := by omega
                      have hv1 : IntKind.i64.wrap ((n : Int) - 1) = (n : Int) - 1 := IntWalk.i64_in _ (by omega)
                      have hv2 : ((n : Int) - 1).toNat = n - 1 := by omega
                      have hv3 : (0 : Int) ≤ (n : Int) - 1 := by omega
                      have hv4 : (n : Int) - 1 < (y.bn : Int) := by omega
                      clear hput hYr hz hcz hzB hcr hbad LOr a6 hHl hfr hnz hz2 hcz2 hzB2
                      as_aux_lemma =>
                        go_wp2
                        go_quiet (fail)
                        go_wp2
                        go_roundw
                        case rel => exact ⟨n + 1, by omega, by go_num, _, HST.out _, HPut.out⟩
                        case measure => simp [intOf]; omega
                    -- >>D
                  · obtain rfl : y.bn = n := by omega
                    have hIN : InOk (homeL p s L) (rootsTo (homeL p s L) B) (k + 1) 0 I := HIO.out.next HR0.out (by rw [(homeL_isls p s L).1, ← HYB.out]; exact hYr.1.symm)
                    have HIN := Lib.hid hIN
                    have LOr := HLO4.out.next HXR.out.l0
                    have hjt : joinedB s L p.ln y.bl = true := by rw [HYB.out]; exact isle_joined p s L r (List.mem_of_getElem? HR0.out)
                    have JO := Lib.hid (fun W hp hs hl => joined_any p s B L HS.out (some ⟨b1', off1, none⟩) y.bn y.bc y.bl W hp hs hl hy0 (by omega) (fun x hx => by
                      rw [HYB.out] at hx
                      obtain ⟨c, hcB, -, rfl⟩ := mem_busesTo.1 hx
                      omega))
                    unfold Plt.val Stt.val at JO
                    rw [eB, hjt] at JO
                    have HYr := Lib.hid hYr
                    have HLr := Lib.hid LOr
                    obtain ⟨p0, p1, p2, p3⟩ := LOr.pc
                    obtain ⟨s0, s1, s2, s3, s4, s5, s6⟩ := sBox_cells LOr.bs
                    rw [eB] at p0
                    clear hIN LOr hjt hYr HIO
                    go_wp2_with fail
                    refine (JO.out _ HLr.out.plt HLr.out.stt (by have h := HYr.out; rwa [HE2.out] at h)).mono ?_
                    rintro e w5 ⟨rfl, hB5⟩
                    have HX5 := Lib.hid (HXR.out.next hB5)
                    clear hB5 HXR HLr HYr p0 p1 p2 p3 s0 s1 s2 s3 s4 s5 s6 JO
                    go_wp2
                    go_loopw [19, 20] (fun i _ wr => ∃ n : Nat, n ≤ y.sn ∧ i = .int .i64 n ∧ Hid (XR w4 w4.heap.size gi VB I wr)) (fun i _ _ => y.sn - (intOf i).toNat)
                    case atStart => exact ⟨0, by omega, rfl, HX5⟩
                    case round =>
                      clear HX5
                      obtain ⟨n, hn, rfl, HXR⟩ := hrel
                      have hII := HI4.out.next HXR.out.l0
                      obtain ⟨b', off', y', e1', -, hy', hcy'⟩ := hII.rd.at_ hkI
                      cases e1'
                      obtain rfl : y = y' := by have h := HY.out; rw [hy'] at h; exact (Option.some.inj h).symm
                      obtain ⟨-, c1⟩ := Isle.cells hcy'
                      have hSr := (hII.src y (List.mem_of_getElem? HY.out)).1
                      have hsl : y.sn ≤ 24 := by
                        rw [← hSr.1, HYS.out]
                        have h1 := srcsOf_length (feedTo (B := B) s p.srcs (homeL p s L) p.sn) r
                        have h2 := feedTo_length (B := B) s p.srcs (homeL p s L) p.sn
                        omega
                      by_cases hln : n < y.sn
                      ·
                        -- <<E
                        obtain ⟨b3, off3, z, e3, hb3, hz, hcz⟩ := hSr.at_ hln
                        rw [e3] at c1
                        have cz := cellI hcz
                        obtain ⟨j, x, rfl, hj, hf, hh⟩ := sources_at HS.out (by rw [← HYS.out]; exact List.mem_of_getElem? hz)
                        obtain ⟨hx, hon, hbs, hbb⟩ := hf
                        have hat := HIN.out.at_ HR0.out hh
                        have LOr := HLO4.out.next HXR.out.l0
                        obtain ⟨-, p1, -, -⟩ := LOr.pc
                        obtain ⟨-, -, -, s3, s4, -, -⟩ := sBox_cells LOr.bs
                        obtain ⟨bs, offs, x', es, -, hx', hcx⟩ := LOr.plt.src.at_ hj
                        obtain rfl : x = x' := by rw [hx] at hx'; exact Option.some.inj hx'
                        obtain ⟨d0, -⟩ := Src.cells hcx
                        rw [es] at p1
                        obtain ⟨g3, o3, a3, -, r3⟩ := LOr.stt.on.at_ (k := j) (by rw [HS.out.lens.on]; exact hj)
                        obtain ⟨g4, o4, a4, -, r4⟩ := LOr.stt.badSource.at_ (k := j) (by rw [HS.out.lens.badSource]; exact hj)
                        rw [HS.out.lens.on, a3] at s3
                        rw [HS.out.lens.badSource, a4] at s4
                        rw [hon] at r3
                        rw [hbs] at r4
                        have ci := HXR.out.b2.cell hat
                        obtain ⟨hx0, hx1⟩ := HS.out.srcs x (List.mem_of_getElem? hx)
                        have hn0 : (0 : Int) ≤ (n : Int) := by omega
                        have hnn : (n : Int) < (y.sn : Int) := by omega
                        have hj0 : (0 : Int) ≤ (j : Int) := by omega
                        have hj1 : (j : Int) < (p.sn : Int) := by omega
                        have hd1 : decide ((j : Int) < 0) = false := by rw [decide_eq_false_iff_not]; omega
                        have hd2 : decide ((p.sn : Int) ≤ (j : Int)) = false := by rw [decide_eq_false_iff_not]; omega
                        have hd3 : decide (p.sn ≤ j) = false := by rw [decide_eq_false_iff_not]; omega
                        have hd4 : ¬ ((j : Int) < 0) := by omega
                        have hd5 : ¬ ((p.sn : Int) ≤ (j : Int)) := by omega
                        have hw1 : IntKind.i64.wrap ((k : Int) + 1) = (k : Int) + 1 := IntWalk.i64_in _ (by omega)
                        have hk1 : (0 : Int) ≤ (k : Int) + 1 := by omega
                        clear hII hy' hcy' hSr e3 hz hcz hh hx hon hbs hbb hat LOr es hx' hcx a3 a4
                        as_aux_lemma =>
                          go_wp2
                          go_roundw
                          case rel => exact ⟨n + 1, by omega, by go_num, HXR.out⟩
                          case measure => simp [intOf]; omega
                        -- >>E
                      · obtain rfl : y.sn = n := by omega
                        clear hII hy' hcy' hSr
                        go_wp2
                        go_roundw
                        case rel => first | exact ⟨k + 1, by omega, by go_num, _, HXR.out, HIN.out⟩ | ((repeat apply Exists.intro); exact ⟨⟨k + 1, by omega, by go_num, _, HXR.out, HIN.out⟩, rfl⟩)
                        case measure => simp [intOf]; omega
            · obtain rfl : nI = k := by omega
              clear hII JI0
              go_wp2
              go_loopw [21] (fun i wr => ∃ b : Nat, b ≤ B ∧ i = .int .i64 b ∧ Hid (XR w4 w4.heap.size gi VB I wr)) (fun i _ => B - (intOf i).toNat)
              case atStart => exact ⟨0, by omega, rfl, HXR⟩
              case round =>
                clear HXR
                obtain ⟨b, hb, rfl, HXR⟩ := hrel
                have LOr := HLO4.out.next HXR.out.l0
                obtain ⟨p0, -, p2, -⟩ := LOr.pc
                rw [eB] at p0
                by_cases hlt : b < B
                ·
                  -- <<F
                  obtain ⟨-, -, -, -, -, -, s6⟩ := sBox_cells LOr.bs
                  obtain ⟨g6, o6, a6, -, r6⟩ := LOr.stt.badBus.at_ (k := b) (by rw [HS.out.lens.badBus]; exact hlt)
                  rw [HS.out.lens.badBus, a6] at s6
                  have HLB : BoolB wr gl (liveL p s L) := BoolB.below (HL4.out.below HXR.out.l0) (Below.refl _ _)
                  have hIl : I.length = B := HIO.out.len.trans (homeL_isls p s L).1
                  have hsn : p.srcs.length = p.sn := HPlt.out.src.1
                  have hVq : rounds (conds s) L p.ln (wayTo B s p.srcs p.sn) B = VB := by rw [HV0.out]; exact HVB.out
                  have hb0 : (0 : Int) ≤ (b : Int) := by omega
                  have hb1 : (b : Int) < (B : Int) := by omega
                  have HXN : Hid (∀ q, XR w4 w4.heap.size gi VB I (wr.drewN q)) := fun q => HXR.out.next (below_drewN (Below.refl wr.heap.size wr) q)
                  by_cases hbad : bit s.badBus b = true
                  · have hv := live_none p s L b hlt hbad
                    have cw := HXR.out.b1.cell (way_at HS.out hsn VB hVq b hlt false hv)
                    have cl := HLB.cell hv
                    have ci := HXR.out.b2.cell (HIO.out.bad b (home_bad p s L b hlt hbad))
                    rw [hbad] at r6
                    clear LOr a6 HLB hsn hVq hbad hv
                    as_aux_lemma =>
                      go_wp2
                      go_quiet (fail)
                      go_wp2
                      go_roundw
                      case rel => exact ⟨b + 1, by omega, by go_num, HXN.out _⟩
                      case measure => simp [intOf]; omega
                  · have hbad : bit s.badBus b = false := by simpa using hbad
                    obtain ⟨r, j, hr, hj⟩ := home_good p s L b hlt hbad
                    have hv := live_at p s L b r hlt hr
                    have hi : I[b]? = some ((j : Int) + 1) := by
                      have h := HIO.out
                      rw [← HNR.out] at h
                      exact h.all hj hr
                    have hjn : j < nI := by
                      rw [← HNR.out]
                      exact (List.getElem?_eq_some_iff.1 hj).1
                    have hII := HI4.out.next HXR.out.l0
                    obtain ⟨b', off', y, e1', -, hy, hcy⟩ := hII.rd.at_ hjn
                    obtain ⟨-, c1⟩ := Isle.cells hcy
                    obtain ⟨r', hr', -, hys⟩ := isle_at HIE.out j y hy
                    obtain rfl : r = r' := by rw [hj] at hr'; exact Option.some.inj hr'
                    have hSr := (hII.src y (List.mem_of_getElem? hy)).1
                    have hsn2 : (srcsOf (feedTo (B := B) s p.srcs (homeL p s L) p.sn) r).length = y.sn := by rw [← hys]; exact hSr.1
                    rw [hsn2] at hv
                    rw [hbad] at r6
                    have ci := HXR.out.b2.cell hi
                    subst e1'
                    have hj0 : (0 : Int) ≤ (j : Int) := by omega
                    have hj1 : (j : Int) < (nI : Int) := by omega
                    have hj2 : (0 : Int) < (j : Int) + 1 := by omega
                    have hj3 : ¬ ((j : Int) + 1 = 0) := by omega
                    have hj4 : decide ((j : Int) + 1 = 0) = false := by rw [decide_eq_false_iff_not]; omega
                    have hj5 : ((j : Int) + 1 == 0) = false := by rw [beq_eq_false_iff_ne]; omega
                    have hj6 : decide ((0 : Int) < (j : Int) + 1) = true := by rw [decide_eq_true_iff]; omega
                    have hj7 : (j : Int) + 1 - 1 = (j : Int) := by omega
                    have hj8 : IntKind.i64.wrap ((j : Int) + 1 - 1) = (j : Int) := by rw [hj7]; exact IntWalk.i64_in _ (by omega)
                    by_cases hz : 0 < y.sn
                    · rw [decide_eq_true hz] at hv
                      have cw := HXR.out.b1.cell (way_at HS.out hsn VB hVq b hlt true hv)
                      have cl := HLB.cell hv
                      have hz1 : decide ((0 : Int) < (y.sn : Int)) = true := by rw [decide_eq_true_iff]; omega
                      have hz2 : decide (0 < y.sn) = true := by rw [decide_eq_true_iff]; omega
                      clear LOr a6 HLB hsn hVq hbad hv hr hj hi hII hy hcy hr' hys hSr hsn2
                      as_aux_lemma =>
                        go_wp2
                        go_quiet (fail)
                        go_wp2
                        go_roundw
                        case rel => exact ⟨b + 1, by omega, by go_num, HXN.out _⟩
                        case measure => simp [intOf]; omega
                    · rw [decide_eq_false hz] at hv
                      have cw := HXR.out.b1.cell (way_at HS.out hsn VB hVq b hlt false hv)
                      have cl := HLB.cell hv
                      have hz1 : decide ((0 : Int) < (y.sn : Int)) = false := by rw [decide_eq_false_iff_not]; omega
                      have hz2 : decide (0 < y.sn) = false := by rw [decide_eq_false_iff_not]; omega
                      have hz3 : ¬ ((0 : Int) < (y.sn : Int)) := by omega
                      clear LOr a6 HLB hsn hVq hbad hv hr hj hi hII hy hcy hr' hys hSr hsn2
                      as_aux_lemma =>
                        go_wp2
                        go_quiet (fail)
                        go_wp2
                        go_roundw
                        case rel => exact ⟨b + 1, by omega, by go_num, HXN.out _⟩
                        case measure => simp [intOf]; omega
                  -- >>F
                · obtain rfl : B = b := by omega
                  clear LOr
                  go_wp2
                  clear p0 p2
                  go_loopw [22] (fun i wr => ∃ k : Nat, k ≤ p.ln ∧ i = .int .i64 k ∧ Hid (XR w4 w4.heap.size gi VB I wr)) (fun i _ => p.ln - (intOf i).toNat)
                  case atStart => exact ⟨0, by omega, rfl, HXR⟩
                  case round =>
                    clear HXR
                    obtain ⟨k, hk, rfl, HXR⟩ := hrel
                    have HLr := Lib.hid (HLO4.out.next HXR.out.l0)
                    obtain ⟨p0, p1, p2, p3⟩ := HLr.out.pc
                    rw [eB] at p0
                    by_cases hkl : k < p.ln
                    ·
                      -- <<G
                      obtain ⟨b, off, x', e1, hb, hx, hcx⟩ := HLr.out.plt.lnk.at_ hkl
                      rw [HS.out.lnks] at hx
                      obtain ⟨y, hy⟩ : ∃ y, L[k]? = some y := by
                        rw [List.getElem?_map] at hx
                        cases h : L[k]? with
                        | none => rw [h] at hx; cases hx
                        | some y => exact ⟨y, rfl⟩
                      rw [List.getElem?_map, hy] at hx
                      simp only [Option.map_some, Option.some.injEq] at hx
                      subst hx
                      rw [e1] at p2
                      obtain ⟨⟨x, hxa, hxb⟩, rfl⟩ : ∃ z, z = y := ⟨_, rfl⟩
                      dsimp only at hcx
                      obtain ⟨d0, d1, -, -, -, -⟩ := Lnk.cells hcx
                      obtain ⟨s0, s1, s2, s3, s4, s5, s6⟩ := sBox_cells HLr.out.bs
                      have hk0 : (0 : Int) ≤ (k : Int) := by omega
                      have hkn : (k : Int) < (p.ln : Int) := by omega
                      obtain ⟨xa0, xa1⟩ := hxa
                      obtain ⟨xb0, xb1⟩ := hxb
                      have HY := Lib.hid hy
                      have CDk := Lib.hid (fun W hp hs => conducts_any p s B L HS.out k _ HY.out W hp hs)
                      unfold Plt.val Stt.val at CDk
                      rw [eB, e1] at CDk
                      dsimp only at CDk
                      have HE1 := Lib.hid e1
                      clear e1 hcx hy
                      have CR := Lib.hid (fun d os => CDk.out (Go.Sort.grow (redrawn wr d) os) (HLr.out.plt.next (below_regrown wr d os)) (HLr.out.stt.next (below_regrown wr d os)))
                      have rp0 := cell_regrown p0
                      have rp1 := cell_regrown p1
                      have rp2 := cell_regrown p2
                      have rp3 := cell_regrown p3
                      have rs0 := cell_regrown s0
                      have rs1 := cell_regrown s1
                      have rs2 := cell_regrown s2
                      have rs3 := cell_regrown s3
                      have rs4 := cell_regrown s4
                      have rs5 := cell_regrown s5
                      have rs6 := cell_regrown s6
                      have rd0 := cell_regrown d0
                      have rd1 := cell_regrown d1
                      have hIl : I.length = B := HIO.out.len.trans (homeL_isls p s L).1
                      cases hcv : conds s k x
                      · rw [hcv] at CR
                        as_aux_lemma =>
                          go_wp2_with fail
                          refine wp_region_quiet_below (by kernel_rfl) (by kernel_rfl) ?_
                          repeat (go_big_quiet_step (exact Calls.regrown_of (CR.out _ _)))
                          refine wpQuiet_nil ?_
                          intro _ hw'
                          obtain ⟨⟨dq, osq⟩, hw''⟩ := hw'
                          subst hw''
                          have HF := Lib.hid (HXR.out.next (below_regrown wr dq osq))
                          clear rp0 rp1 rp2 rp3 rs0 rs1 rs2 rs3 rs4 rs5 rs6 rd0 rd1 CR CDk p0 p1 p2 p3 s0 s1 s2 s3 s4 s5 s6 d0 d1 HLr HXR
                          obtain ⟨w5, hw5⟩ : ∃ z, Go.Sort.grow (redrawn wr dq) osq = z := ⟨_, rfl⟩
                          rw [hw5] at HF ⊢
                          clear hw5
                          go_wp2
                          go_roundw
                          case rel => exact ⟨k + 1, by omega, by go_num, HF.out⟩
                          case measure => simp [intOf]; omega
                      · rw [hcv] at CR
                        obtain ⟨r, j, ha, hb, hj⟩ := link_home (p := p) HY.out hkl hcv
                        have hA := HIO.out
                        rw [← HNR.out] at hA
                        have ia := HXR.out.b2.cell (hA.all hj ha)
                        have ib := HXR.out.b2.cell (hA.all hj hb)
                        dsimp only at ia ib
                        have ria := cell_regrown ia
                        have rib := cell_regrown ib
                        clear hA ia ib ha hb
                        as_aux_lemma =>
                          go_wp2_with fail
                          refine wp_region_quiet_below (by kernel_rfl) (by kernel_rfl) ?_
                          repeat (go_big_quiet_step (exact Calls.regrown_of (CR.out _ _)))
                          refine wpQuiet_nil ?_
                          intro _ hw'
                          obtain ⟨⟨dq, osq⟩, hw''⟩ := hw'
                          subst hw''
                          have HF := Lib.hid (HXR.out.next (below_regrown wr dq osq))
                          clear rp0 rp1 rp2 rp3 rs0 rs1 rs2 rs3 rs4 rs5 rs6 rd0 rd1 CR CDk p0 p1 p2 p3 s0 s1 s2 s3 s4 s5 s6 d0 d1 HLr HXR ria rib
                          obtain ⟨w5, hw5⟩ : ∃ z, Go.Sort.grow (redrawn wr dq) osq = z := ⟨_, rfl⟩
                          rw [hw5] at HF ⊢
                          clear hw5
                          go_wp2
                          go_roundw
                          case rel => exact ⟨k + 1, by omega, by go_num, HF.out⟩
                          case measure => simp [intOf]; omega
                      -- >>G
                    · obtain rfl : p.ln = k := by omega
                      go_wp2_with fail
                      refine (AW.out _ (HPow.out.below HLr.out.low)).mono ?_
                      rintro e w9 ⟨rfl, hB9⟩
                      go_wp2_with fail
                      go_ret
                      exact ⟨rfl, below_after hB9 (Nat.le_refl _) HLr.out.low⟩
end Go.Proofs.YtcidcadopeokoaaDoor
