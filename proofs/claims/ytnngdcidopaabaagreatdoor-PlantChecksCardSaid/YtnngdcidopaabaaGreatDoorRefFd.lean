/- The reference's Fed; the law's comparison of feeds. -/
import Derived.Test.YtnngdcidopaabaaGreatDoorRefLv
import Derived.Test.YtnngdcidopaabaaGreatDoorRow
import Derived.Test.YtnngdcidopaabaaGreatDoorFree6

set_option linter.unusedSimpArgs false
set_option linter.unusedVariables false
namespace Go.Proofs.YtnngdcidopaabaaGreatDoor
open Go.RowKit

def encQ (x : Bool × Bool) : List Value := [.bool x.1, .bool x.2]
def fedPair (v : List Bool) (x : Rck) : Bool × Bool := (feedLive v x.f0, feedLive v x.f1)
/-- Feeds of racks of a valid plant. -/
theorem racks_of {p : Plt} {s : Stt} {B : Nat} (h : checkState p s = 0) (hB : p.buses = B) : ∀ x ∈ p.rcks, 0 ≤ x.f0 ∧ x.f0 < B ∧ x.f1 < B := by
  have hc : check p = 0 := by
    unfold checkState at h
    split at h
    · assumption
    · rename_i h'; exact absurd h h'
  have hr : rcksOk p = true := by
    unfold check at hc
    split at hc
    · split at hc
      · split at hc
        · split at hc
          · assumption
          · cases hc
        · cases hc
      · cases hc
    · cases hc
  unfold rcksOk at hr
  simp only [Bool.and_eq_true, decide_eq_true_eq, List.all_eq_true] at hr
  have hb : (1 : Int) ≤ p.buses := by
    obtain ⟨B', h1, h2, _⟩ := check_buses hc
    omega
  intro x hx
  have h1 := hr.2 x hx
  unfold rckOk isBus at h1
  simp only [Bool.and_eq_true, Bool.or_eq_true, decide_eq_true_eq] at h1
  obtain ⟨⟨⟨h2, h3⟩, -⟩, -⟩ := h1
  refine ⟨h2.1, by omega, ?_⟩
  rcases h3 with h4 | h4
  · omega
  · have := h4.1.2
    omega
/-- What holds within the statement that appends a rack's feeds. -/
structure FdR (w1 : World) (n0 bx g k : Nat) (v : List Bool) (f0 f1 : Int) (u : Value) (xs : List Value) (W : World) (γ : Nat → Nat) : Prop where
  low : Below w1.heap.size w1 W
  live : BoolB W g v
  box : Blk W bx 79 #[.int .i64 f0, .int .i64 f1]
  row : γ 0 = 0 → W.ownsRow w1.heap.size 75 2 u k xs
  sz : n0 ≤ W.heap.size
theorem FdR.alloc {w1 : World} {n0 bx g k : Nat} {v : List Bool} {f0 f1 : Int} {u : Value} {xs : List Value} {W : World} {γ : Nat → Nat} (h : FdR w1 n0 bx g k v f0 f1 u xs W γ) (o : Obj) : FdR w1 n0 bx g k v f0 f1 u xs (W.alloc o) γ :=
  ⟨h.low.alloc h.low.size _, Blk.alloc h.live _, h.box.alloc _, fun e => (h.row e).alloc _, by have := h.sz; simp; omega⟩
def fdPsi : Nat → World → (Nat → Nat) → Prop := fun i _ γ => i = 19 → γ 0 = 0
def fdPhi (w1 : World) (bx g B k : Nat) (f0 f1 : Int) (u : Value) (xs : List Value) (u0 h u1 uu : Bool) : Nat → Value → World → (Nat → Nat) → Prop
  | 0, v, _, _ => v = u
  | 1, v, _, _ => v = .slice (some ⟨g, 0, none⟩) B B
  | 2, v, _, _ => v = .pointer (some ⟨bx, 0, none⟩)
  | 3, v, _, _ => v = .int .i64 f0
  | 4, v, _, _ => v = .pointer (some ⟨g, f0.toNat, none⟩)
  | 5, v, _, _ => v = .bool u0
  | 6, v, _, _ => v = .pointer (some ⟨bx, 1, none⟩)
  | 7, v, _, _ => v = .int .i64 f1
  | 8, v, _, _ => v = .bool h
  | 9, v, _, _ => v = .bool h
  | 10, v, _, _ => h = true → v = .slice (some ⟨g, 0, none⟩) B B
  | 11, v, _, _ => h = true → v = .pointer (some ⟨bx, 1, none⟩)
  | 12, v, _, _ => h = true → v = .int .i64 f1
  | 13, v, _, _ => h = true → v = .int .i64 f1
  | 14, v, _, _ => h = true → v = .pointer (some ⟨g, f1.toNat, none⟩)
  | 15, v, _, _ => h = true → v = .bool u1
  | 16, v, _, _ => v = .bool uu
  | 17, v, _, _ => v = .agg #[.bool u0, .bool uu]
  | 18, v, W, _ => ∃ e, v = .slice (some ⟨e, 0, none⟩) 1 1 ∧ Blk W e 75 #[.bool u0, .bool uu] ∧ u.ownBlock ≠ some e
  | 19, v, W, _ => W.ownsRow w1.heap.size 75 2 v (k + 1) (xs ++ [.bool u0, .bool uu])
  | 20, v, W, _ => W.ownsRow w1.heap.size 75 2 v (k + 1) (xs ++ [.bool u0, .bool uu])
  | _, _, _, _ => True
theorem fdPhi_kept {w1 : World} {bx g B k : Nat} {f0 f1 : Int} {u : Value} {xs : List Value} {u0 h u1 uu : Bool} {W W' : World} {γ γ' : Nat → Nat} (j : Nat) (v : Value) (h18 : j ≠ 18) (h19 : j ≠ 19) (h20 : j ≠ 20) (hv : fdPhi w1 bx g B k f0 f1 u xs u0 h u1 uu j v W γ) : fdPhi w1 bx g B k f0 f1 u xs u0 h u1 uu j v W' γ' := by
  unfold fdPhi at hv ⊢
  split at hv <;> first | exact hv | exact absurd rfl h18 | exact absurd rfl h19 | exact absurd rfl h20 | trivial
set_option maxRecDepth 100000 in
set_option maxHeartbeats 8000000 in
theorem refFed_ok (p : Plt) (s : Stt) (B : Nat) (L : List (LnkOf B)) (S : Sound p s B L) (hsn : p.sn ≤ 24) (hln : p.ln ≤ 40) (hrn : p.rn ≤ 24) (w : World) (hc : checkState p s = 0) (hp : PltIn w w.heap.size p) (hs : SttIn w w.heap.size s) :
    Calls Tryz.prog 20 #[p.val, s.val] w fun e w' => ∃ (A : Option Addr) (c : Nat), e = .returned (.tuple #[.slice A p.rn c, .int .i64 0]) ∧ Below w.heap.size w w' ∧ Rd w' w'.heap.size 2 encQ A p.rn (p.rcks.map (fedPair (liveL p s L))) := by
  have hRK := Lib.hid (racks_of hc S.buses)
  have LV := Lib.hid (fun W hp hs => refLive_ok p s B L S hsn hln W hc hp hs)
  have hv := liveL_length p s L
  have hrl : p.rcks.length = p.rn := hp.rck.1
  have eB := S.buses
  have kB := S.small
  obtain ⟨i0, hi, hz0, hz1, hz2⟩ := info_parts bool2Info
  generalize liveL p s L = v at LV hv ⊢
  have LO0 : Lo w p s w.heap.size (w.heap.size + 1) ((w.alloc (.cells (pBox p) 26)).alloc (.cells (sBox s) 29)) := by
    have hb : Below w.heap.size w ((w.alloc (.cells (pBox p) 26)).alloc (.cells (sBox s) 29)) := by (repeat' (first | (with_reducible exact Below.refl _ _) | (with_reducible assumption) | (with_reducible refine below_drewN ?_ _) | (with_reducible refine below_after (by assumption) ?_ ?_) | (with_reducible refine Below.drew ?_) | (with_reducible refine Below.alloc ?_ ?_ _) | (with_reducible refine Below.setCell ?_ ?_ _) | omega | (simp; omega) | (simp; done)))
    refine ⟨hb, hp.next hb, hs.next hb, Blk.alloc (heap_alloc_new w _) _, ?_⟩
    have := heap_alloc_new (w.alloc (.cells (pBox p) 26)) (.cells (sBox s) 29)
    rw [World.size_alloc] at this
    exact this
  unfold pBox sBox at LO0
  rw [eB] at LO0
  have HLO0 := Lib.hid LO0
  clear hp hs S hc LO0
  unfold Plt.val Stt.val at LV ⊢
  rw [eB] at LV ⊢
  go_enter Tryz.func20, Tryz.ntmps20
  go_wp2_with fail
  refine (LV.out _ HLO0.out.plt HLO0.out.stt).mono ?_
  rintro e w1 ⟨g, rfl, hB1, hg, hG⟩
  have HLO1 := Lib.hid (HLO0.out.next hB1)
  have HG1 := Lib.hid hG
  clear hB1 HLO0 LV hG
  go_wp2
  have JW : Hid (Below w1.heap.size w1 w1 ∧ w1.ownsRow w1.heap.size 75 2 (.slice none 0 0) 0 (((p.rcks.take 0).map (fedPair v)).flatMap encQ)) := ⟨Below.refl _ _, World.ownsRow_nil _ _ _ _⟩
  go_loopw [8, 9, 10] (fun u i _ wr => ∃ k : Nat, k ≤ p.rn ∧ i = .int .i64 k ∧ Hid (Below w1.heap.size w1 wr ∧ wr.ownsRow w1.heap.size 75 2 u k (((p.rcks.take k).map (fedPair v)).flatMap encQ))) (fun _ i _ _ => p.rn - (intOf i).toNat)
  case atStart => exact ⟨0, by omega, rfl, JW⟩
  case round =>
    clear JW
    obtain ⟨k, hk, rfl, HJ⟩ := hrel
    have HLr := Lib.hid (HLO1.out.next HJ.out.1)
    obtain ⟨p0, p1, p2, p3⟩ := HLr.out.pc
    by_cases hlt : k < p.rn
    · obtain ⟨b, off, x, e1, hb, hx, hcx⟩ := HLr.out.plt.rck.at_ hlt
      obtain ⟨d0, d1, d2, d3⟩ := Rck.cells hcx
      obtain ⟨x0, x1, x2⟩ := hRK.out x (List.mem_of_getElem? hx)
      rw [e1] at p3
      have hk0 : (0 : Int) ≤ (k : Int) := by omega
      have hkn : (k : Int) < (p.rn : Int) := by omega
      have HX := Lib.hid hx
      have HGr := Lib.hid (BoolB.below HG1.out (below_after HJ.out.1 (Nat.le_refl _) (Below.refl _ _)))
      have hGa : BoolB (wr.alloc (.cells #[.int .i64 x.f0, .int .i64 x.f1] 79)) g v := Blk.alloc HGr.out _
      have ca := hGa.cell (getElem?_mk (V := v) (i := x.f0.toNat) (by omega))
      have hnx : Blk (wr.alloc (.cells #[.int .i64 x.f0, .int .i64 x.f1] 79)) wr.heap.size 79 #[.int .i64 x.f0, .int .i64 x.f1] := heap_alloc_new wr _
      have z0 : (wr.alloc (.cells #[.int .i64 x.f0, .int .i64 x.f1] 79)).cell? ⟨wr.heap.size, 0, none⟩ = some (.int .i64 x.f0) := hnx.cell 0
      have z1 : (wr.alloc (.cells #[.int .i64 x.f0, .int .i64 x.f1] 79)).cell? ⟨wr.heap.size, 1, none⟩ = some (.int .i64 x.f1) := hnx.cell 1
      have hl0 : feedLive v x.f0 = mk v x.f0.toNat := by unfold feedLive mk; simp [x0]
      obtain ⟨u0, hu0⟩ : ∃ u, mk v x.f0.toNat = u := ⟨_, rfl⟩
      rw [hu0] at ca hl0
      have HU0 := Lib.hid hu0
      have zw : w1.heap.size ≤ wr.heap.size := HJ.out.1.size
      have HO := Lib.hid (HJ.out.2.alloc (.cells #[.int .i64 x.f0, .int .i64 x.f1] 79))
      have HB := Lib.hid (HJ.out.1.alloc zw (.cells #[.int .i64 x.f0, .int .i64 x.f1] 79))
      have zwa : w1.heap.size ≤ (wr.alloc (.cells #[.int .i64 x.f0, .int .i64 x.f1] 79)).heap.size := by simp; omega
      have HL0 := Lib.hid hl0
      clear hx hcx hnx hu0 hl0 HJ
      obtain ⟨hv1, hh⟩ : ∃ h, decide ((0 : Int) ≤ x.f1) = h := ⟨_, rfl⟩
      obtain ⟨u1, hu1⟩ : ∃ u, mk v x.f1.toNat = u := ⟨_, rfl⟩
      obtain ⟨uu, huu⟩ : ∃ u, feedLive v x.f1 = u := ⟨_, rfl⟩
      have hcase : uu = (hv1 && u1) := by rw [← huu, ← hh, ← hu1]; unfold feedLive mk; rfl
      have hkey : ((p.rcks.take (k + 1)).map (fedPair v)).flatMap encQ = ((p.rcks.take k).map (fedPair v)).flatMap encQ ++ [.bool u0, .bool uu] := by
        rw [List.take_add_one, HX.out]
        simp [fedPair, encQ, HL0.out, huu]
      have HK2 := Lib.hid hkey
      have HCS := Lib.hid hcase
      have hbox : Blk (wr.alloc (.cells #[.int .i64 x.f0, .int .i64 x.f1] 79)) wr.heap.size 79 #[.int .i64 x.f0, .int .i64 x.f1] := heap_alloc_new wr _
      have HBX := Lib.hid hbox
      have HGa := Lib.hid hGa
      have HH := Lib.hid hh
      have HU1 := Lib.hid hu1
      obtain ⟨xs, hxs⟩ : ∃ xs, ((p.rcks.take k).map (fedPair v)).flatMap encQ = xs := ⟨_, rfl⟩
      rw [hxs] at HO HK2
      have CA := Lib.hid ca
      clear hkey hcase hbox hGa hxs huu hh hu1 ca z0 z1
      go_wp2
      obtain ⟨wa, hwa⟩ : ∃ z, wr.alloc (.cells #[.int .i64 x.f0, .int .i64 x.f1] 79) = z := ⟨_, rfl⟩
      rw [hwa] at HO HB zwa HBX HGa CA ⊢
      obtain ⟨bx, hbx⟩ : ∃ z, wr.heap.size = z := ⟨_, rfl⟩
      rw [hbx] at HBX ⊢
      obtain ⟨un, hun⟩ : ∃ z, z = u8 := ⟨u8, rfl⟩
      subst hun
      have HUB : Hid (∀ e, un.ownBlock = some e → e < wa.heap.size) := fun e he => (HO.out.lt e he).2
      clear hwa hbx p0 p1 p2 p3 d0 d1 d2 d3
      refine wp_region_free9 20 (by kernel_rfl) [some 33, some 34, some 35, some 36, some 37, some 38, some 39, some 40, some 41, some 42, some 43, some 44, some 45, some 46, some 47, some 48, some 49, some 50, some 51, some 52, some 8] [[], [], [], [2], [1, 3], [4], [], [6], [7], [8], [9], [9], [11, 9], [12, 9], [10, 13, 9], [14, 9], [9, 15], [5, 16], [17], [0, 18, 9], [19, 19, 0, 1, 2, 3, 4, 5, 6, 7, 8, 9, 10, 11, 12, 13, 14, 15, 16, 17, 18, 19]] [(6, .slice (some ⟨g, 0, none⟩) B B), (8, un), (10, .pointer (some ⟨bx, 0, none⟩))] (FdR w1 wa.heap.size bx g k v x.f0 x.f1 un xs) (fdPhi w1 bx g B k x.f0 x.f1 un xs u0 hv1 u1 uu) fdPsi (by kernel_rfl) (by kernel_rfl) rfl (by kernel_rfl) ?_ ?_ ⟨fun _ => 0, ?_, ?_⟩ ?_ ?_
      · intro z hz
        simp only [List.mem_cons, List.mem_nil_iff, or_false] at hz
        rcases hz with rfl | rfl | rfl
        · exact ⟨rfl, rfl⟩
        · exact ⟨rfl, rfl⟩
        · exact ⟨rfl, rfl⟩
      · intro i v W γ hi h
        have := List.mem_of_getElem? hi
        simp at this
      · exact ⟨HB.out.drew, HGa.out, HBX.out, fun _ => HO.out.drew, Nat.le_refl _⟩
      · exact fun _ _ _ => rfl
      · refine ⟨?_, ?_, ?_, ?_, ?_, ?_, ?_, ?_, ?_, ?_, ?_, ?_, ?_, ?_, ?_, ?_, ?_, ?_, ?_, ?_, ?_, trivial⟩
        all_goals
          intro a W γ ev hcc hff hfx hR hps hpre
          simp only [List.mem_cons, List.mem_nil_iff, or_false, forall_eq, forall_eq_or_imp] at hfx
          obtain ⟨f6, f8, f10⟩ := hfx
          have Z0 : W.cell? ⟨bx, 0, none⟩ = some (.int .i64 x.f0) := hR.box.cell 0
          have Z1 : W.cell? ⟨bx, 1, none⟩ = some (.int .i64 x.f1) := hR.box.cell 1
          have HR := Lib.hid hR
          have HPS := Lib.hid hps
          clear hR hps
          refine ⟨fun hgd K hK => ?_, ?_⟩
        · clear hpre
          go_simp
          exact hK _ _ _ HR.out (fun _ _ _ _ h => h) (fun _ _ h => h) rfl
        · trivial
        · clear hpre
          go_simp
          exact hK _ _ _ HR.out (fun _ _ _ _ h => h) (fun _ _ h => h) rfl
        · trivial
        · clear hpre
          go_simp
          exact hK _ _ _ HR.out (fun _ _ _ _ h => h) (fun _ _ h => h) rfl
        · trivial
        · have q1 : ev (.tmp 35) = _ := hpre 2 (by decide)
          clear hpre
          go_simp
          exact hK _ _ _ HR.out (fun _ _ _ _ h => h) (fun _ _ h => h) rfl
        · trivial
        · have q1 : ev (.tmp 34) = _ := hpre 1 (by decide)
          have q2 : ev (.tmp 36) = _ := hpre 3 (by decide)
          clear hpre
          go_simp
          exact hK _ _ _ HR.out (fun _ _ _ _ h => h) (fun _ _ h => h) rfl
        · trivial
        · have q1 : ev (.tmp 37) = _ := hpre 4 (by decide)
          have Z2 : W.cell? ⟨g, x.f0.toNat, none⟩ = some (.bool u0) := by have h := HR.out.live.cell (getElem?_mk (V := v) (i := x.f0.toNat) (by omega)); rwa [HU0.out] at h
          clear hpre
          go_simp
          exact hK _ _ _ HR.out (fun _ _ _ _ h => h) (fun _ _ h => h) rfl
        · trivial
        · clear hpre
          go_simp
          exact hK _ _ _ HR.out (fun _ _ _ _ h => h) (fun _ _ h => h) rfl
        · trivial
        · have q1 : ev (.tmp 39) = _ := hpre 6 (by decide)
          clear hpre
          go_simp
          exact hK _ _ _ HR.out (fun _ _ _ _ h => h) (fun _ _ h => h) rfl
        · trivial
        · have q1 : ev (.tmp 40) = _ := hpre 7 (by decide)
          clear hpre
          go_simp
          exact hK _ _ _ HR.out (fun _ _ _ _ h => h) (fun _ _ h => h) (congrArg Value.bool HH.out)
        · trivial
        · have q1 : ev (.tmp 41) = _ := hpre 8 (by decide)
          clear hpre
          go_simp
          exact hK _ _ _ HR.out (fun _ _ _ _ h => h) (fun _ _ h => h) rfl
        · trivial
        · clear hpre
          go_simp
          exact hK _ _ _ HR.out (fun _ _ _ _ h => h) (fun _ _ h => h) (fun _ => rfl)
        · exact fun hne hh => absurd ((show ev (.tmp 42) = .bool hv1 from hpre 9 (by decide)).trans (by rw [hh])) hne
        · clear hpre
          go_simp
          exact hK _ _ _ HR.out (fun _ _ _ _ h => h) (fun _ _ h => h) (fun _ => rfl)
        · exact fun hne hh => absurd ((show ev (.tmp 42) = .bool hv1 from hpre 9 (by decide)).trans (by rw [hh])) hne
        · have hT : hv1 = true := by
            have h9 : ev (.tmp 42) = .bool hv1 := hpre 9 (by decide)
            have h8 : ev (.tmp 42) = .bool true := hgd
            rw [h9] at h8
            exact Value.bool.inj h8
          have q1 : ev (.tmp 44) = _ := hpre 11 (by decide) hT
          clear hpre
          go_simp
          exact hK _ _ _ HR.out (fun _ _ _ _ h => h) (fun _ _ h => h) (fun _ => rfl)
        · exact fun hne hh => absurd ((show ev (.tmp 42) = .bool hv1 from hpre 9 (by decide)).trans (by rw [hh])) hne
        · have hT : hv1 = true := by
            have h9 : ev (.tmp 42) = .bool hv1 := hpre 9 (by decide)
            have h8 : ev (.tmp 42) = .bool true := hgd
            rw [h9] at h8
            exact Value.bool.inj h8
          have xg : (0 : Int) ≤ x.f1 := by have h := HH.out; rw [hT] at h; exact of_decide_eq_true h
          have hmx : max x.f1 0 = x.f1 := by omega
          have q1 : ev (.tmp 45) = _ := hpre 12 (by decide) hT
          clear hpre
          go_simp
          exact hK _ _ _ HR.out (fun _ _ _ _ h => h) (fun _ _ h => h) (fun _ => rfl)
        · exact fun hne hh => absurd ((show ev (.tmp 42) = .bool hv1 from hpre 9 (by decide)).trans (by rw [hh])) hne
        · have hT : hv1 = true := by
            have h9 : ev (.tmp 42) = .bool hv1 := hpre 9 (by decide)
            have h8 : ev (.tmp 42) = .bool true := hgd
            rw [h9] at h8
            exact Value.bool.inj h8
          have xg : (0 : Int) ≤ x.f1 := by have h := HH.out; rw [hT] at h; exact of_decide_eq_true h
          have q1 : ev (.tmp 43) = _ := hpre 10 (by decide) hT
          have q2 : ev (.tmp 46) = _ := hpre 13 (by decide) hT
          clear hpre
          go_simp
          exact hK _ _ _ HR.out (fun _ _ _ _ h => h) (fun _ _ h => h) (fun _ => rfl)
        · exact fun hne hh => absurd ((show ev (.tmp 42) = .bool hv1 from hpre 9 (by decide)).trans (by rw [hh])) hne
        · have hT : hv1 = true := by
            have h9 : ev (.tmp 42) = .bool hv1 := hpre 9 (by decide)
            have h8 : ev (.tmp 42) = .bool true := hgd
            rw [h9] at h8
            exact Value.bool.inj h8
          have xg : (0 : Int) ≤ x.f1 := by have h := HH.out; rw [hT] at h; exact of_decide_eq_true h
          have q1 : ev (.tmp 47) = _ := hpre 14 (by decide) hT
          have Z2 : W.cell? ⟨g, x.f1.toNat, none⟩ = some (.bool u1) := by have h := HR.out.live.cell (getElem?_mk (V := v) (i := x.f1.toNat) (by omega)); rwa [HU1.out] at h
          clear hpre
          go_simp
          exact hK _ _ _ HR.out (fun _ _ _ _ h => h) (fun _ _ h => h) (fun _ => rfl)
        · exact fun hne hh => absurd ((show ev (.tmp 42) = .bool hv1 from hpre 9 (by decide)).trans (by rw [hh])) hne
        · have q1 : ev (.tmp 42) = _ := hpre 9 (by decide)
          cases hv1
          · clear hpre
            go_simp
            exact hK _ _ _ HR.out (fun _ _ _ _ h => h) (fun _ _ h => h) (by show _ = Value.bool uu; rw [HCS.out]; rfl)
          · have q2 : ev (.tmp 48) = _ := hpre 15 (by decide) rfl
            clear hpre
            go_simp
            exact hK _ _ _ HR.out (fun _ _ _ _ h => h) (fun _ _ h => h) (by show _ = Value.bool uu; rw [HCS.out]; rfl)
        · trivial
        · have q1 : ev (.tmp 38) = _ := hpre 5 (by decide)
          have q2 : ev (.tmp 49) = _ := hpre 16 (by decide)
          clear hpre
          go_simp
          exact hK _ _ _ HR.out (fun _ _ _ _ h => h) (fun _ _ h => h) rfl
        · trivial
        · have q1 : ev (.tmp 50) = _ := hpre 17 (by decide)
          clear hpre
          go_simp
          refine hK _ _ γ (HR.out.alloc _) (fun j u hj hne h => fdPhi_kept j u hne (fun e => ?_) (fun e => ?_) h) (fun _ _ h => h) ⟨_, rfl, heap_alloc_new W _, fun e => ?_⟩
          · subst e; exact hj (by decide)
          · subst e; exact hj (by decide)
          · have h1 := HUB.out _ e
            have h2 := HR.out.sz
            omega
        · trivial
        · have q1 : ev (.tmp 33) = _ := hpre 0 (by decide)
          obtain ⟨el, q2, hbl, hun⟩ := hpre 18 (by decide)
          replace q2 : ev (.tmp 51) = _ := q2
          have hrow := HR.out.row (HPS.out rfl)
          have hcell : ∀ (j : Nat) u, [Value.bool u0, Value.bool uu][j]? = some u → W.cell? ((⟨el, 0, none⟩ : Addr).add j) = some u := by
            intro i z hz
            match i, hz with
            | 0, hz =>
              simp only [List.getElem?_cons_zero, Option.some.injEq] at hz
              subst hz
              simpa [Addr.add] using hbl.cell 0
            | 1, hz =>
              simp only [List.getElem?_cons_succ, List.getElem?_cons_zero, Option.some.injEq] at hz
              subst hz
              simpa [Addr.add] using hbl.cell 1
          obtain ⟨v', w', hr, h2, h3, -, -⟩ := run_append_own_at (P := Tryz.prog) W w1.heap.size 47 47 75 i0 (.agg #[.bool false, .bool false]) 2 2 Tryz.underlying47 hi hz0 hz1 hz2 rfl (by decide) un k xs hrow ⟨el, 0, none⟩ 1 1 [.bool u0, .bool uu] rfl hcell (by
            intro z hz
            simp only [List.mem_cons, List.mem_nil_iff, or_false] at hz
            rcases hz with rfl | rfl <;> rfl) (by simp only [maxLen]; omega) (by omega) HR.out.low.size
          unfold execOp
          simp only [resolve, invoke, builtin, Sem.run_bind, Sem.run_pure, Result.andThen_ok, List.map_toArray, List.map_cons, List.map_nil, q1, q2, hr]
          refine hK v' w' (also γ 0 1) ⟨HR.out.low.grown h3 HR.out.low.size (fun e he => (hrow.lt e he).1), Blk.kept HR.out.live h3 (own_ne hrow HR.out.live (by decide)), HR.out.box.kept h3 (own_ne hrow HR.out.box (by decide)), fun e => ?_, Nat.le_trans HR.out.sz h3.size⟩ (fun j u hj hne h => ?_) (fun j hne h e => absurd e hne) h2
          · rw [also_same] at e
            cases e
          · by_cases h20 : j = 20
            · subst h20; exact absurd (by decide) hj
            · by_cases h18 : j = 18
              · subst h18
                obtain ⟨e1, g1, g2, g3⟩ := h
                exact ⟨e1, g1, g2.kept h3 (fun e => g3 e.symm), g3⟩
              · exact fdPhi_kept j u h18 hne h20 h
        · trivial
        · have q1 := hpre 19 (by decide)
          replace q1 : W.ownsRow w1.heap.size 75 2 (ev (.tmp 52)) (k + 1) (xs ++ [.bool u0, .bool uu]) := q1
          have HQ := Lib.hid q1
          clear hpre q1
          go_simp
          exact hK _ _ _ HR.out (fun _ _ _ _ h => h) (fun _ _ h => h) HQ.out
        · trivial
      · intro vs w' γ hvl hR hφ
        have hrow := hφ 20 (by decide)
        have HRR := Lib.hid hR
        clear hφ hR
        match vs, hvl with
        | [z0, z1, z2, z3, z4, z5, z6, z7, z8, z9, z10, z11, z12, z13, z14, z15, z16, z17, z18, z19, z20], _ =>
        replace hrow : w'.ownsRow w1.heap.size 75 2 z20 (k + 1) (xs ++ [.bool u0, .bool uu]) := hrow
        have HRW := Lib.hid hrow
        clear hrow
        simp [putAll]
        go_wp2
        go_roundw
        case rel => exact ⟨k + 1, by omega, by go_num, HRR.out.low, by rw [HK2.out]; exact HRW.out⟩
        case measure => simp [intOf]; omega
    · obtain rfl : p.rn = k := by omega
      obtain ⟨A, c, rfl⟩ := row_slice HJ.out.2
      have HO := Lib.hid HJ.out
      clear HJ
      go_wp2
      have hfin : wr.ownsRow w1.heap.size 75 2 (.slice A p.rn c) p.rn ((p.rcks.map (fedPair v)).flatMap encQ) := by
        have h := HO.out.2
        rwa [show p.rcks.take p.rn = p.rcks by rw [← hrl, List.take_length]] at h
      exact bodyPost_ret (results_tmp2 rfl _ _ _) rfl ⟨A, c, rfl, below_after HO.out.1 (Nat.le_refl _) HLO1.out.low, rd_row (fun _ _ => rfl) (by rw [List.length_map]; exact hrl) hfin⟩
end Go.Proofs.YtnngdcidopaabaaGreatDoor
