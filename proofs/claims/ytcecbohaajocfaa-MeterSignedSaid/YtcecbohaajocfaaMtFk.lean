/- law11: MeterSigned. -/
import Derived.Test.YtcecbohaajocfaaMtFl
import Derived.Test.YtcecbohaajocfaaMtJ
import Derived.Deep.CutBlock

set_option linter.unusedSimpArgs false
set_option linter.unusedVariables false
namespace Go.Proofs.Ytcecbohaajocfaa
open Go.RowKit

def sg8Phi (n cc : Nat) (CA : Option Addr) (x2 x3 : Int) (i k : Nat) : Nat → Value → World → (Nat → Nat) → Prop
  | 0, v, _, _ => v = .int .u8 x2
  | 1, v, _, _ => v = .int .i64 x2
  | 2, v, _, _ => v = .slice CA n cc
  | 3, v, _, _ => v = .int .i64 ((n : Nat) : Int)
  | 4, v, _, _ => v = .int .i64 ((i : Nat) : Int)
  | 5, v, _, _ => v = .int .u8 x3
  | 6, v, _, _ => v = .int .i64 x3
  | 7, v, _, _ => v = .slice CA n cc
  | 8, v, _, _ => v = .int .i64 ((n : Nat) : Int)
  | 9, v, _, _ => v = .int .i64 ((k : Nat) : Int)
  | 10, v, _, _ => v = .int .i64 ((i : Nat) : Int)
  | 11, v, _, _ => v = .int .i64 ((k : Nat) : Int)
  | _, _, _, _ => True
def sgwR (Q0 Q1 Q2 : World → Prop) (W : World) (γ : Nat → Nat) : Prop := (γ 0 = 0 ∧ Q0 W) ∨ (γ 0 = 1 ∧ Q1 W) ∨ (γ 0 = 2 ∧ Q2 W)
theorem sgwR.at0 {Q0 Q1 Q2 : World → Prop} {W : World} {γ : Nat → Nat} (h : sgwR Q0 Q1 Q2 W γ) (e : γ 0 = 0) : Q0 W := by rcases h with h | h | h; exact h.2; omega; omega
theorem sgwR.at1 {Q0 Q1 Q2 : World → Prop} {W : World} {γ : Nat → Nat} (h : sgwR Q0 Q1 Q2 W γ) (e : γ 0 = 1) : Q1 W := by rcases h with h | h | h; omega; exact h.2; omega
theorem sgwR.at2 {Q0 Q1 Q2 : World → Prop} {W : World} {γ : Nat → Nat} (h : sgwR Q0 Q1 Q2 W γ) (e : γ 0 = 2) : Q2 W := by rcases h with h | h | h; omega; omega; exact h.2
def sgwPhi (g n c i k : Nat) (x y : Lk) : Nat → Value → World → (Nat → Nat) → Prop
  | 0, v, _, _ => v = .slice (some ⟨g, 0, none⟩) n c
  | 1, v, _, _ => v = .int .i64 ((i : Nat) : Int)
  | 2, v, _, _ => v = .slice (some ⟨g, 0, none⟩) n c
  | 3, v, _, _ => v = .int .i64 ((k : Nat) : Int)
  | 4, v, _, _ => v = .slice (some ⟨g, 0, none⟩) n c
  | 5, v, _, _ => v = .int .i64 ((k : Nat) : Int)
  | 6, v, _, _ => v = .pointer (some ⟨g, k * 4, none⟩)
  | 7, v, _, γ => v = .agg #[.int .i64 y.1.m, .int .i64 y.1.h, .int .i64 y.1.v, .int .u64 y.2] ∧ γ 7 = 1
  | 8, v, _, _ => v = .slice (some ⟨g, 0, none⟩) n c
  | 9, v, _, _ => v = .int .i64 ((i : Nat) : Int)
  | 10, v, _, _ => v = .pointer (some ⟨g, i * 4, none⟩)
  | 11, v, _, γ => v = .agg #[.int .i64 x.1.m, .int .i64 x.1.h, .int .i64 x.1.v, .int .u64 x.2] ∧ γ 11 = 1
  | 12, v, _, _ => v = .pointer (some ⟨g, i * 4, none⟩)
  | 13, _, _, γ => γ 0 ≠ 0
  | 14, v, _, _ => v = .pointer (some ⟨g, k * 4, none⟩)
  | 15, _, _, γ => γ 0 = 2
  | _, _, _, _ => True
def sgwPsi (j : Nat) (_ : World) (γ : Nat → Nat) : Prop := (j = 7 → γ 7 = 0) ∧ (j = 11 → γ 11 = 0) ∧ (j = 13 → γ 0 = 0) ∧ (j = 15 → γ 0 ≠ 2)
theorem sgwPhi_g {g n c i k : Nat} {x y : Lk} {j : Nat} {v : Value} {W W' : World} {γ γ' : Nat → Nat} (h0 : γ' 0 = γ 0) (h7 : j = 7 → γ' 7 = γ 7) (h11 : j = 11 → γ' 11 = γ 11) (h : sgwPhi g n c i k x y j v W γ) : sgwPhi g n c i k x y j v W' γ' := by
  unfold sgwPhi at h ⊢
  split at h
  all_goals first | exact h | trivial | skip
  · rw [h7 rfl]; exact h
  · rw [h11 rfl]; exact h
  · rw [h0]; exact h
  · rw [h0]; exact h
theorem sgwR.ghost {Q0 Q1 Q2 : World → Prop} {W : World} {γ γ' : Nat → Nat} (h : sgwR Q0 Q1 Q2 W γ) (e : γ' 0 = γ 0) : sgwR Q0 Q1 Q2 W γ' := by unfold sgwR at h ⊢; rw [e]; exact h
set_option maxRecDepth 100000 in
set_option maxHeartbeats 8000000 in
theorem signed_any (key : Int) (A0 : Option Addr) (n0 c0 : Nat) (l0 : List Int) (x2 x3 x4 : Int) (w : World) (r0 : Rd w w.heap.size 1 encU A0 n0 l0) (u0 : U8s l0) (z0 : n0 ≤ 9223372036854775807) (b2 : 0 ≤ x2 ∧ x2 ≤ 255) (b3 : 0 ≤ x3 ∧ x3 ≤ 255) (b4 : 0 ≤ x4 ∧ x4 ≤ 255) :
    Calls Try.prog 6 #[.int .u64 key, .slice A0 n0 c0, .int .u8 x2, .int .u8 x3, .int .u8 x4] w fun e w' => e = .returned (.bool true) ∧ Below w.heap.size w w' := by
  have HB := Lib.hid (And.intro b2 (And.intro b3 b4))
  have KR := Read_any A0 n0 c0 l0 w r0 u0 z0
  have HRK : Hid (RgsOk (rdK l0 (stepsR n0)) ∧ (rdK l0 (stepsR n0)).length ≤ 20) := Lib.hid ⟨rdK_ok u0 _, Nat.le_trans (rdK_len _ _) (Nat.min_le_right _ _)⟩
  have HRB : Hid (∀ r ∈ rdK l0 (stepsR n0), RgB r) := Lib.hid (rdK_mem u0 _)
  obtain ⟨R, hR⟩ : ∃ z, z = rdK l0 (stepsR n0) := ⟨_, rfl⟩
  rw [← hR] at KR HRK HRB
  clear hR r0 u0 z0 b2 b3 b4
  go_enter Try.func6, Try.ntmps6
  go_wp2_with fail
  refine KR.mono ?_
  rintro e w1 ⟨RA, n, rc, rfl, hn, hrow, hB⟩
  clear KR
  have H1 : Hid (Below w.heap.size w w1 ∧ Rd w1 w1.heap.size 3 Rg.enc RA n R ∧ n = R.length ∧ n ≤ 20) := Lib.hid ⟨hB, row_rd (fun _ => rfl) hn.symm hrow, hn, by have := HRK.out.2; omega⟩
  clear hB hrow hn
  have KS := Sign_any key RA n rc R w1 H1.out.2.1 HRK.out.1 (by have := H1.out.2.2.2; omega)
  go_wp2_with fail
  refine KS.mono ?_
  rintro e w2 ⟨CA, cc, rfl, hrow2, hB2⟩
  clear KS
  obtain ⟨C, hC⟩ : ∃ z, z = chL key R n := ⟨_, rfl⟩
  rw [← hC] at hrow2
  have H2 : Hid (Below w.heap.size w w2 ∧ Rd w2 w2.heap.size 4 encLk CA n C ∧ C.length = n ∧ C.map Prod.fst = R ∧ BadAt key C n n) := Lib.hid (by
    have hl : C.length = n := by rw [hC, chL_len]
    refine ⟨below3 H1.out.1 hB2 (Nat.le_refl _), row_rd (fun _ => rfl) hl hrow2, hl, ?_, ?_⟩
    · rw [hC, H1.out.2.2.1]; exact chL_map key R
    · rw [hC, H1.out.2.2.1]; exact bad_none key R)
  clear hrow2 hB2 hC
  have KV := Verify_any key CA n cc n 0 C w2 (by rw [if_pos rfl]) H2.out.2.1 (by rw [H2.out.2.2.2.1]; exact HRK.out.1) (by have := H1.out.2.2.2; omega) H2.out.2.2.2.2
  go_wp2_with fail
  refine KV.mono ?_
  rintro e w3 ⟨rfl, hB3⟩
  clear KV
  have H3 : Hid (Below w.heap.size w w3 ∧ Rd w3 w3.heap.size 4 encLk CA n C) := Lib.hid ⟨below3 H2.out.1 hB3 (Nat.le_refl _), H2.out.2.1.next hB3⟩
  clear hB3
  by_cases hn0 : n = 0
  · have e1 : ((n : Nat) : Int) = 0 := by omega
    go_wp2_with fail
    refine (awake_yes _).mono ?_
    rintro e w19 ⟨rfl, hB⟩
    have HF := Lib.hid (below3 H3.out.1 hB (Nat.le_refl _))
    clear hB
    go_wp2
    go_ret
    exact ⟨rfl, HF.out⟩
  · have e1 : ¬ (((n : Nat) : Int) = 0) := by omega
    have hx2 := tmod_bd (x := x2) (n := ((n : Nat) : Int)) HB.out.1.1 (by omega)
    have hx3 := tmod_bd (x := x3) (n := ((n : Nat) : Int)) HB.out.2.1.1 (by omega)
    have hx4 := tmod_bd (x := x4) (n := 4) HB.out.2.2.1 (by omega)
    obtain ⟨i, hi⟩ : ∃ i : Nat, x2.tmod ((n : Nat) : Int) = ((i : Nat) : Int) := ⟨(x2.tmod ((n : Nat) : Int)).toNat, by omega⟩
    obtain ⟨k, hk⟩ : ∃ k : Nat, x3.tmod ((n : Nat) : Int) = ((k : Nat) : Int) := ⟨(x3.tmod ((n : Nat) : Int)).toNat, by omega⟩
    obtain ⟨d, hd⟩ : ∃ d : Nat, x4.tmod 4 = ((d : Nat) : Int) := ⟨(x4.tmod 4).toNat, by omega⟩
    have wx2 : IntKind.i64.wrap x2 = x2 := IntWalk.i64_in _ (by have := HB.out; omega)
    have wx3 : IntKind.i64.wrap x3 = x3 := IntWalk.i64_in _ (by have := HB.out; omega)
    have wi : IntKind.i64.wrap ((i : Nat) : Int) = ((i : Nat) : Int) := IntWalk.i64_in _ (by have := H1.out; omega)
    have wk : IntKind.i64.wrap ((k : Nat) : Int) = ((k : Nat) : Int) := IntWalk.i64_in _ (by have := H1.out; omega)
    have wd : IntKind.u8.wrap ((d : Nat) : Int) = ((d : Nat) : Int) := IntWalk.u8_in _ (by omega)
    have HI : Hid (i < n ∧ k < n ∧ d < 4 ∧ n ≤ 20) := Lib.hid (by have := H1.out.2.2.2; omega)
    clear hx2 hx3 hx4
    go_wp2
    refine wp_region_free10 11 (by kernel_rfl) [some 61, some 62, some 63, some 64, some 65, some 66, some 67, some 68, some 69, some 70, some 16, some 17] [[], [0], [], [2], [1, 3], [], [5], [], [7], [6, 8], [4, 0, 1, 2, 3, 4], [9, 10, 0, 1, 2, 3, 4, 5, 6, 7, 8, 9, 10]] [(2, .int .u8 x2), (3, .int .u8 x3), (12, .slice CA n cc)] (fun W _ => Below w3.heap.size w3 W) (sg8Phi n cc CA x2 x3 i k) (fun _ _ _ => True) (by kernel_rfl) (by kernel_rfl) rfl (by kernel_rfl) ?_ ?_ ⟨fun _ => 0, (Below.refl _ _).drew, fun _ _ => trivial⟩ ?_ ?_
    · intro z hz
      simp only [List.mem_cons, List.mem_nil_iff, or_false] at hz
      rcases hz with rfl | rfl | rfl
      all_goals exact ⟨by kernel_rfl, rfl⟩
    · intro i v W γ hi h
      rcases i with _ | _ | _ | _ | _ | _ | _ | _ | _ | _ | _ | _ | i
      all_goals first | exact h | (simp at hi)
    · refine ⟨?_, ?_, ?_, ?_, ?_, ?_, ?_, ?_, ?_, ?_, ?_, ?_, trivial⟩
      all_goals
        intro a9 W γ ev hcc hff hfx hR hψ hpre
        simp only [List.mem_cons, List.mem_nil_iff, or_false, forall_eq, forall_eq_or_imp] at hfx
        obtain ⟨f0, f1, f2⟩ := hfx
        have HR9 := Lib.hid hR
        clear hR
      · refine ⟨fun hg K hK => ?_, trivial⟩
        clear hg
        clear hpre hψ
        go_simp
        exact hK _ _ γ HR9.out (fun _ _ _ _ h => h) (fun _ _ _ h => h) rfl
      · refine ⟨fun hg K hK => ?_, trivial⟩
        clear hg
        have q0 : ev (.tmp 61) = _ := hpre 0 (by decide)
        clear hpre hψ
        go_simp
        exact hK _ _ γ HR9.out (fun _ _ _ _ h => h) (fun _ _ _ h => h) rfl
      · refine ⟨fun hg K hK => ?_, trivial⟩
        clear hg
        clear hpre hψ
        go_simp
        exact hK _ _ γ HR9.out (fun _ _ _ _ h => h) (fun _ _ _ h => h) rfl
      · refine ⟨fun hg K hK => ?_, trivial⟩
        clear hg
        have q0 : ev (.tmp 63) = _ := hpre 2 (by decide)
        clear hpre hψ
        go_simp
        exact hK _ _ γ HR9.out (fun _ _ _ _ h => h) (fun _ _ _ h => h) rfl
      · refine ⟨fun hg K hK => ?_, trivial⟩
        clear hg
        have q0 : ev (.tmp 62) = _ := hpre 1 (by decide)
        have q1 : ev (.tmp 64) = _ := hpre 3 (by decide)
        clear hpre hψ
        go_simp
        exact hK _ _ γ HR9.out (fun _ _ _ _ h => h) (fun _ _ _ h => h) rfl
      · refine ⟨fun hg K hK => ?_, trivial⟩
        clear hg
        clear hpre hψ
        go_simp
        exact hK _ _ γ HR9.out (fun _ _ _ _ h => h) (fun _ _ _ h => h) rfl
      · refine ⟨fun hg K hK => ?_, trivial⟩
        clear hg
        have q0 : ev (.tmp 66) = _ := hpre 5 (by decide)
        clear hpre hψ
        go_simp
        exact hK _ _ γ HR9.out (fun _ _ _ _ h => h) (fun _ _ _ h => h) rfl
      · refine ⟨fun hg K hK => ?_, trivial⟩
        clear hg
        clear hpre hψ
        go_simp
        exact hK _ _ γ HR9.out (fun _ _ _ _ h => h) (fun _ _ _ h => h) rfl
      · refine ⟨fun hg K hK => ?_, trivial⟩
        clear hg
        have q0 : ev (.tmp 68) = _ := hpre 7 (by decide)
        clear hpre hψ
        go_simp
        exact hK _ _ γ HR9.out (fun _ _ _ _ h => h) (fun _ _ _ h => h) rfl
      · refine ⟨fun hg K hK => ?_, trivial⟩
        clear hg
        have q0 : ev (.tmp 67) = _ := hpre 6 (by decide)
        have q1 : ev (.tmp 69) = _ := hpre 8 (by decide)
        clear hpre hψ
        go_simp
        exact hK _ _ γ HR9.out (fun _ _ _ _ h => h) (fun _ _ _ h => h) rfl
      · refine ⟨fun hg K hK => ?_, trivial⟩
        clear hg
        have q0 : ev (.tmp 65) = _ := hpre 4 (by decide)
        clear hpre hψ
        go_simp
        exact hK _ _ γ HR9.out (fun _ _ _ _ h => h) (fun _ _ _ h => h) rfl
      · refine ⟨fun hg K hK => ?_, trivial⟩
        clear hg
        have q0 : ev (.tmp 70) = _ := hpre 9 (by decide)
        clear hpre hψ
        go_simp
        exact hK _ _ γ HR9.out (fun _ _ _ _ h => h) (fun _ _ _ h => h) rfl
    · intro vs wy γ hvl hR hφ
      have q10 := hφ 10 (by decide)
      have q11 := hφ 11 (by decide)
      have HR8 := Lib.hid hR
      clear hφ hR
      match vs, hvl with
      | [y0, y1, y2, y3, y4, y5, y6, y7, y8, y9, y10, y11], _ =>
      simp only [List.getD_cons_zero, List.getD_cons_succ] at q10 q11
      obtain rfl : y10 = _ := q10
      obtain rfl : y11 = _ := q11
      have H4 : Hid (Below w.heap.size w wy ∧ Rd wy wy.heap.size 4 encLk CA n C) := Lib.hid ⟨below3 H3.out.1 HR8.out (Nat.le_refl _), H3.out.2.next HR8.out⟩
      clear HR8 wx2 wx3 hi hk
      have KC := clone_links CA n cc C wy H4.out.2 (by have := HI.out; omega)
      simp [putAll]
      go_wp2_with fail
      refine KC.mono ?_
      rintro e w5 ⟨XA, xc, rfl, hrow5, hB5, _⟩
      clear KC
      obtain ⟨g, rfl⟩ := row_some hrow5 (by have := HI.out; omega)
      obtain ⟨B, hB0⟩ : ∃ z, z = wy.heap.size := ⟨_, rfl⟩
      rw [← hB0] at hrow5
      have HBg : Hid (w.heap.size ≤ B ∧ B ≤ g) := Lib.hid ⟨by rw [hB0]; exact H4.out.1.size, (row_room hrow5).2.2.1⟩
      have H5 : Hid (Below w.heap.size w w5 ∧ w5.ownsRow B 67 4 (.slice (some ⟨g, 0, none⟩) n xc) n (C.flatMap encLk) ∧ C.length = n ∧ RgsOk (C.map Prod.fst)) := Lib.hid ⟨below3 H4.out.1 hB5 (Nat.le_refl _), hrow5, H2.out.2.2.1, by rw [H2.out.2.2.2.1]; exact HRK.out.1⟩
      clear hrow5 hB5 hB0 hn0
      have hn0 : ¬ (n = 0) := by have := HI.out; omega
      go_upto_block 0 with fail
      go_cut [18] from 75 to 117 (fun xv W => ∃ (n' : Nat) (L' : List Lk), xv = .slice (some ⟨g, 0, none⟩) n' xc ∧ Hid (L'.length = n' ∧ n' ≤ 20 ∧ W.ownsRow B 67 4 (.slice (some ⟨g, 0, none⟩) n' xc) n' (L'.flatMap encLk) ∧ RgsOk (L'.map Prod.fst) ∧ Below w.heap.size w W))
      case first =>
        have hfz := row_frozen H5.out.2.1
        have hzg := (row_room H5.out.2.1).2.2.2
        have hi0 : (0 : Int) ≤ ((i : Nat) : Int) := by omega
        have hin : ((i : Nat) : Int) < ((n : Nat) : Int) := by have := HI.out; omega
        obtain ⟨a0, a1, a2, a3⟩ := row_lk H5.out.2.1 H5.out.2.2.1 (k := i) HI.out.1
        have hok := ok_at H5.out.2.2.2 (p := i) (by rw [H5.out.2.2.1]; exact HI.out.1)
        have hgt := lkA_get (L := C) (k := i) (by rw [H5.out.2.2.1]; exact HI.out.1)
        obtain ⟨x, hx⟩ : ∃ z, z = lkA C i := ⟨_, rfl⟩
        rw [← hx] at a0 a1 a2 a3 hok hgt
        have HX := Lib.hid (And.intro hx (And.intro hok hgt))
        clear hx hgt
        rcases (show d = 0 ∨ d = 1 ∨ d = 2 ∨ d = 3 by have := HI.out; omega) with hd0 | hd0 | hd0 | hd0
        · have wv : IntKind.i64.wrap (x.1.v + 1) = x.1.v + 1 := IntWalk.i64_in _ (by have := hok.v; omega)
          have hok2 : Hid (0 ≤ x.1.v ∧ x.1.v ≤ 1000000000) := Lib.hid hok.v
          have HV : Hid (x.1.v ≤ 999999999) := Lib.hid (by
            have h := HRB.out _ (by rw [← H2.out.2.2.2.1]; exact List.mem_map_of_mem (List.mem_of_getElem? HX.out.2.2))
            have := h.v
            omega)
          subst hd0
          clear hok a0 a1 a3
          go_wp2
          go_meet
          case rel => exact ⟨n, C.set i (⟨x.1.m, x.1.h, x.1.v + 1⟩, x.2), rfl, Lib.hid ⟨by rw [List.length_set]; exact H5.out.2.2.1, HI.out.2.2.2, row_field (r := 2) (v := .int .i64 (x.1.v + 1)) (x' := (⟨x.1.m, x.1.h, x.1.v + 1⟩, x.2)) H5.out.2.1 HX.out.2.2 (by decide) rfl, ok_set H5.out.2.2.2 i _ (by rw [H5.out.2.2.1]; exact HI.out.1) (by rw [← HX.out.1]; rfl) ⟨HX.out.2.1.m, HX.out.2.1.h, by have := HV.out; have := hok2.out; dsimp only; omega⟩, H5.out.1.setCell (p := ⟨g, i * 4 + 2, none⟩) (Nat.le_trans HBg.out.1 HBg.out.2) _⟩⟩
        · obtain ⟨s9, hs9⟩ : ∃ z, z = IntKind.u64.wrap (x.2 + 1) := ⟨_, rfl⟩
          have ws : IntKind.u64.wrap (x.2 + 1) = s9 := hs9.symm
          subst hd0
          clear hok a0 a1 a2 hs9
          go_wp2
          go_meet
          case rel => exact ⟨n, C.set i (x.1, s9), rfl, Lib.hid ⟨by rw [List.length_set]; exact H5.out.2.2.1, HI.out.2.2.2, row_field (r := 3) (v := .int .u64 s9) (x' := (x.1, s9)) H5.out.2.1 HX.out.2.2 (by decide) rfl, ok_set H5.out.2.2.2 i _ (by rw [H5.out.2.2.1]; exact HI.out.1) (by rw [← HX.out.1]) HX.out.2.1, H5.out.1.setCell (p := ⟨g, i * 4 + 3, none⟩) (Nat.le_trans HBg.out.1 HBg.out.2) _⟩⟩
        · have KD := Delete_any B g n xc i (i + 1) C w5 rfl HI.out.1 H5.out.2.1 H5.out.2.2.1 (by have := HI.out; omega)
          obtain ⟨j, hj⟩ : ∃ z, z = i + 1 := ⟨_, rfl⟩
          rw [← hj] at KD
          have wj : IntKind.i64.wrap (((i : Nat) : Int) + 1) = ((j : Nat) : Int) := by rw [hj]; exact IntWalk.i64_in _ (by have := HI.out; omega)
          subst hd0
          clear hok a0 a1 a2 a3 hj
          go_wp2_with fail
          refine KD.mono ?_
          rintro e w6 ⟨rfl, hrow6, hk6⟩
          have H6 := Lib.hid (And.intro hrow6 hk6)
          clear hrow6 hk6 KD
          go_wp2
          go_meet
          case rel => exact ⟨n - 1, C.eraseIdx i, rfl, Lib.hid ⟨by rw [List.length_eraseIdx, if_pos (by rw [H5.out.2.2.1]; exact HI.out.1), H5.out.2.2.1], by have := HI.out; omega, H6.out.1, ok_erase H5.out.2.2.2 i (by rw [H5.out.2.2.1]; exact HI.out.1), H5.out.1.trans (H6.out.2.below H5.out.1.size (fun b e => by rw [e]; exact Nat.le_trans HBg.out.1 HBg.out.2))⟩⟩
        · obtain ⟨c0, c1, c2, c3⟩ := row_lk H5.out.2.1 H5.out.2.2.1 (k := k) HI.out.2.1
          have hgy := lkA_get (L := C) (k := k) (by rw [H5.out.2.2.1]; exact HI.out.2.1)
          obtain ⟨y, hy⟩ : ∃ z, z = lkA C k := ⟨_, rfl⟩
          rw [← hy] at c0 c1 c2 c3 hgy
          have HY := Lib.hid (And.intro hy hgy)
          have hk0 : (0 : Int) ≤ ((k : Nat) : Int) := by omega
          have hkn : ((k : Nat) : Int) < ((n : Nat) : Int) := by have := HI.out; omega
          subst hd0
          clear hy hgy hok a0 a1 a2 a3 c0 c1 c2 c3 hfz hzg
          go_wp2
          refine wp_region_free10 15 (by kernel_rfl) [some 75, some 76, some 77, some 78, some 79, some 80, some 81, some 82, some 83, some 84, some 85, some 86, some 87, none, some 88, none] [[], [], [], [], [], [], [4, 5], [6], [], [], [8, 9], [10], [0, 1, 0, 1, 4, 5, 6, 7, 11], [12, 7, 0, 1, 4, 5, 6, 7, 11], [2, 3, 0, 1, 2, 3, 4, 5, 6, 7, 8, 9, 10, 11, 12, 13], [14, 11, 13, 0, 1, 2, 3, 4, 5, 6, 7, 8, 9, 10, 11, 12, 13]] [(16, .int .i64 ((i : Nat) : Int)), (17, .int .i64 ((k : Nat) : Int)), (18, .slice (some ⟨g, 0, none⟩) n xc)] (fun W γ => sgwR (fun W => W.ownsRow B 67 4 (.slice (some ⟨g, 0, none⟩) n xc) n (C.flatMap encLk) ∧ Below w.heap.size w W) (fun W => W.ownsRow B 67 4 (.slice (some ⟨g, 0, none⟩) n xc) n ((C.set i y).flatMap encLk) ∧ Below w.heap.size w W) (fun W => W.ownsRow B 67 4 (.slice (some ⟨g, 0, none⟩) n xc) n (((C.set i y).set k x).flatMap encLk) ∧ Below w.heap.size w W) W γ ∧ (γ 0 ≠ 0 → γ 7 = 1 ∧ γ 11 = 1)) (sgwPhi g n xc i k x y) (sgwPsi) (by kernel_rfl) (by kernel_rfl) rfl (by kernel_rfl) ?_ ?_ ⟨fun _ => 0, ⟨.inl ⟨rfl, row_next H5.out.2.1 (Below.refl _ _).drew, H5.out.1.drew⟩, fun h => absurd rfl h⟩, fun _ _ => ⟨fun _ => rfl, fun _ => rfl, fun _ => rfl, fun _ => by decide⟩⟩ ?_ ?_
          · intro z hz
            simp only [List.mem_cons, List.mem_nil_iff, or_false] at hz
            rcases hz with rfl | rfl | rfl
            all_goals exact ⟨by kernel_rfl, rfl⟩
          · intro i v W γ hi h
            rcases i with _ | _ | _ | _ | _ | _ | _ | _ | _ | _ | _ | _ | _ | _ | _ | _ | i
            all_goals first | exact h | (simp at hi)
          · refine ⟨?_, ?_, ?_, ?_, ?_, ?_, ?_, ?_, ?_, ?_, ?_, ?_, ?_, ?_, ?_, ?_, trivial⟩
            all_goals
              intro a9 W γ ev hcc hff hfx hR hψ hpre
              simp only [List.mem_cons, List.mem_nil_iff, or_false, forall_eq, forall_eq_or_imp] at hfx
              obtain ⟨f0, f1, f2⟩ := hfx
              have HR9 := Lib.hid hR
              clear hR
            · refine ⟨fun hg K hK => ?_, trivial⟩
              clear hg
              clear hpre hψ
              go_simp
              exact hK _ _ γ HR9.out (fun _ _ _ _ h => h) (fun _ _ _ h => h) rfl
            · refine ⟨fun hg K hK => ?_, trivial⟩
              clear hg
              clear hpre hψ
              go_simp
              exact hK _ _ γ HR9.out (fun _ _ _ _ h => h) (fun _ _ _ h => h) rfl
            · refine ⟨fun hg K hK => ?_, trivial⟩
              clear hg
              clear hpre hψ
              go_simp
              exact hK _ _ γ HR9.out (fun _ _ _ _ h => h) (fun _ _ _ h => h) rfl
            · refine ⟨fun hg K hK => ?_, trivial⟩
              clear hg
              clear hpre hψ
              go_simp
              exact hK _ _ γ HR9.out (fun _ _ _ _ h => h) (fun _ _ _ h => h) rfl
            · refine ⟨fun hg K hK => ?_, trivial⟩
              clear hg
              clear hpre hψ
              go_simp
              exact hK _ _ γ HR9.out (fun _ _ _ _ h => h) (fun _ _ _ h => h) rfl
            · refine ⟨fun hg K hK => ?_, trivial⟩
              clear hg
              clear hpre hψ
              go_simp
              exact hK _ _ γ HR9.out (fun _ _ _ _ h => h) (fun _ _ _ h => h) rfl
            · refine ⟨fun hg K hK => ?_, trivial⟩
              clear hg
              have q0 : ev (.tmp 79) = _ := hpre 4 (by decide)
              have q1 : ev (.tmp 80) = _ := hpre 5 (by decide)
              clear hpre hψ
              go_simp
              exact hK _ _ γ HR9.out (fun _ _ _ _ h => h) (fun _ _ _ h => h) rfl
            · refine ⟨fun hg K hK => ?_, trivial⟩
              clear hg
              have q0 : ev (.tmp 81) = _ := hpre 6 (by decide)
              have h9 := sgwR.at0 HR9.out.1 (by have hp := hψ.1 rfl; by_cases h : γ 0 = 0; exact h; have := (HR9.out.2 h).1; omega)
              obtain ⟨c0, c1, c2, c3⟩ := row_lk h9.1 H5.out.2.2.1 (k := k) HI.out.2.1
              rw [← HY.out.1] at c0 c1 c2 c3
              have zg := (row_room h9.1).2.2.2
              clear h9
              have HP := Lib.hid hψ
              clear hpre hψ
              go_simp
              exact hK _ _ (fun z => if z = 7 then 1 else γ z) ⟨HR9.out.1.ghost rfl, fun h => by have := HR9.out.2 h; exact ⟨by simp [this], by simp [this]⟩⟩ (fun j u h1 h2 h3 => sgwPhi_g rfl (fun e => by subst e; first | exact absurd rfl h2 | rfl) (fun e => by subst e; first | exact absurd rfl h2 | rfl) h3) (fun _ j h1 h2 => ⟨fun e => by subst e; first | exact absurd rfl h1 | exact h2.1 rfl, fun e => by subst e; first | exact absurd rfl h1 | exact h2.2.1 rfl, h2.2.2.1, h2.2.2.2⟩) ⟨rfl, rfl⟩
            · refine ⟨fun hg K hK => ?_, trivial⟩
              clear hg
              clear hpre hψ
              go_simp
              exact hK _ _ γ HR9.out (fun _ _ _ _ h => h) (fun _ _ _ h => h) rfl
            · refine ⟨fun hg K hK => ?_, trivial⟩
              clear hg
              clear hpre hψ
              go_simp
              exact hK _ _ γ HR9.out (fun _ _ _ _ h => h) (fun _ _ _ h => h) rfl
            · refine ⟨fun hg K hK => ?_, trivial⟩
              clear hg
              have q0 : ev (.tmp 83) = _ := hpre 8 (by decide)
              have q1 : ev (.tmp 84) = _ := hpre 9 (by decide)
              clear hpre hψ
              go_simp
              exact hK _ _ γ HR9.out (fun _ _ _ _ h => h) (fun _ _ _ h => h) rfl
            · refine ⟨fun hg K hK => ?_, trivial⟩
              clear hg
              have q0 : ev (.tmp 85) = _ := hpre 10 (by decide)
              have h9 := sgwR.at0 HR9.out.1 (by have hp := hψ.2.1 rfl; by_cases h : γ 0 = 0; exact h; have := (HR9.out.2 h).2; omega)
              obtain ⟨c0, c1, c2, c3⟩ := row_lk h9.1 H5.out.2.2.1 (k := i) HI.out.1
              rw [← HX.out.1] at c0 c1 c2 c3
              have zg := (row_room h9.1).2.2.2
              clear h9
              have HP := Lib.hid hψ
              clear hpre hψ
              go_simp
              exact hK _ _ (fun z => if z = 11 then 1 else γ z) ⟨HR9.out.1.ghost rfl, fun h => by have := HR9.out.2 h; exact ⟨by simp [this], by simp [this]⟩⟩ (fun j u h1 h2 h3 => sgwPhi_g rfl (fun e => by subst e; first | exact absurd rfl h2 | rfl) (fun e => by subst e; first | exact absurd rfl h2 | rfl) h3) (fun _ j h1 h2 => ⟨fun e => by subst e; first | exact absurd rfl h1 | exact h2.1 rfl, fun e => by subst e; first | exact absurd rfl h1 | exact h2.2.1 rfl, h2.2.2.1, h2.2.2.2⟩) ⟨rfl, rfl⟩
            · refine ⟨fun hg K hK => ?_, trivial⟩
              clear hg
              have q0 : ev (.tmp 75) = _ := hpre 0 (by decide)
              have q1 : ev (.tmp 76) = _ := hpre 1 (by decide)
              clear hpre hψ
              go_simp
              exact hK _ _ γ HR9.out (fun _ _ _ _ h => h) (fun _ _ _ h => h) rfl
            · refine ⟨fun hg K hK => ?_, trivial⟩
              clear hg
              have q0 : ev (.tmp 87) = _ := hpre 12 (by decide)
              have q1 : ev (.tmp 82) = _ := (hpre 7 (by decide)).1
              have g7 : γ 7 = 1 := (hpre 7 (by decide)).2
              have g11 : γ 11 = 1 := (hpre 11 (by decide)).2
              have hγ : γ 0 = 0 := hψ.2.2.1 rfl
              have h9 := sgwR.at0 HR9.out.1 hγ
              have zl := (row_room h9.1).2.2.2
              have fl9 := row_frozen h9.1
              obtain ⟨c0, c1, c2, c3⟩ := row_lk h9.1 (by exact H5.out.2.2.1) (k := i) HI.out.1
              have H9 := Lib.hid (And.intro h9 (And.intro hγ (And.intro g7 g11)))
              have HP := Lib.hid hψ
              clear hpre hψ h9 hγ g7 g11
              go_simp
              refine hK undef _ (fun z => if z = 0 then 1 else γ z) ⟨.inr (.inl ⟨rfl, row_link H9.out.1.1 y (by rw [H5.out.2.2.1]; exact HI.out.1), (((H9.out.1.2.setCell (p := ⟨g, i * 4, none⟩) (Nat.le_trans HBg.out.1 HBg.out.2) _).setCell (p := ⟨g, i * 4 + 1, none⟩) (Nat.le_trans HBg.out.1 HBg.out.2) _).setCell (p := ⟨g, i * 4 + 2, none⟩) (Nat.le_trans HBg.out.1 HBg.out.2) _).setCell (p := ⟨g, i * 4 + 3, none⟩) (Nat.le_trans HBg.out.1 HBg.out.2) _⟩), fun _ => H9.out.2.2⟩ (fun j u h1 h2 h3 => ?_) (fun _ j h1 h2 => ⟨h2.1, h2.2.1, fun e => absurd e h1, fun _ => (show (1 : Nat) ≠ 2 by decide)⟩) ?_
              · unfold sgwPhi at h3 ⊢
                split at h3 <;> first | exact h3 | trivial | exact absurd rfl h2 | exact (show (1 : Nat) ≠ 0 by decide) | (exfalso; exact h1 (by decide)) | skip
              · exact (show (1 : Nat) ≠ 0 by decide)
            · refine ⟨fun hg K hK => ?_, trivial⟩
              clear hg
              have q0 : ev (.tmp 77) = _ := hpre 2 (by decide)
              have q1 : ev (.tmp 78) = _ := hpre 3 (by decide)
              clear hpre hψ
              go_simp
              exact hK _ _ γ HR9.out (fun _ _ _ _ h => h) (fun _ _ _ h => h) rfl
            · refine ⟨fun hg K hK => ?_, trivial⟩
              clear hg
              have q0 : ev (.tmp 88) = _ := hpre 14 (by decide)
              have q1 : ev (.tmp 86) = _ := (hpre 11 (by decide)).1
              have g7 : γ 7 = 1 := (hpre 7 (by decide)).2
              have g11 : γ 11 = 1 := (hpre 11 (by decide)).2
              have hγ : γ 0 = 1 := by have h1 : γ 0 ≠ 0 := hpre 13 (by decide); have h2 : γ 0 ≠ 2 := hψ.2.2.2 rfl; rcases HR9.out.1 with h | h | h <;> omega
              have h9 := sgwR.at1 HR9.out.1 hγ
              have zl := (row_room h9.1).2.2.2
              have fl9 := row_frozen h9.1
              obtain ⟨c0, c1, c2, c3⟩ := row_lk h9.1 (by rw [List.length_set]; exact H5.out.2.2.1) (k := k) HI.out.2.1
              have H9 := Lib.hid (And.intro h9 (And.intro hγ (And.intro g7 g11)))
              have HP := Lib.hid hψ
              clear hpre hψ h9 hγ g7 g11
              go_simp
              refine hK undef _ (fun z => if z = 0 then 2 else γ z) ⟨.inr (.inr ⟨rfl, row_link H9.out.1.1 x (by rw [List.length_set]; rw [H5.out.2.2.1]; exact HI.out.2.1), (((H9.out.1.2.setCell (p := ⟨g, k * 4, none⟩) (Nat.le_trans HBg.out.1 HBg.out.2) _).setCell (p := ⟨g, k * 4 + 1, none⟩) (Nat.le_trans HBg.out.1 HBg.out.2) _).setCell (p := ⟨g, k * 4 + 2, none⟩) (Nat.le_trans HBg.out.1 HBg.out.2) _).setCell (p := ⟨g, k * 4 + 3, none⟩) (Nat.le_trans HBg.out.1 HBg.out.2) _⟩), fun _ => H9.out.2.2⟩ (fun j u h1 h2 h3 => ?_) (fun h => absurd rfl h) ?_
              · unfold sgwPhi at h3 ⊢
                split at h3 <;> first | exact h3 | trivial | exact absurd rfl h2 | exact (show (2 : Nat) ≠ 0 by decide) | (exfalso; exact h1 (by decide)) | skip
              · exact (show (2 : Nat) = 2 by decide)
          · intro vs wq γ hvl hR hφ
            have q15 := hφ 15 (by decide)
            have HR11 := Lib.hid hR
            clear hφ hR
            match vs, hvl with
            | [y0, y1, y2, y3, y4, y5, y6, y7, y8, y9, y10, y11, y12, y13, y14, y15], _ =>
            simp only [List.getD_cons_zero, List.getD_cons_succ] at q15
            have HW := Lib.hid (sgwR.at2 HR11.out.1 q15)
            clear HR11 q15
            simp [putAll]
            go_wp2
            go_meet
            case rel => exact ⟨n, (C.set i y).set k x, rfl, Lib.hid ⟨by rw [List.length_set, List.length_set]; exact H5.out.2.2.1, HI.out.2.2.2, HW.out.1, by rw [HY.out.1, HX.out.1]; exact ok_swap H5.out.2.2.2 i k (by rw [H5.out.2.2.1]; exact HI.out.1) (by rw [H5.out.2.2.1]; exact HI.out.2.1), HW.out.2⟩⟩
      case rest =>
        obtain ⟨n', L, rfl, HX⟩ := hcut
        obtain ⟨R', hR'⟩ : ∃ z, z = L.map Prod.fst := ⟨_, rfl⟩
        have HRP : Hid (R' = L.map Prod.fst ∧ R'.length = n') := Lib.hid ⟨hR', by rw [hR', List.length_map]; exact HX.out.1⟩
        obtain ⟨i0, hi0, hz0, hz1, hz2⟩ := info_parts readInfo
        have hi := Lib.hid (And.intro hi0 (And.intro hz0 (And.intro hz1 hz2)))
        have hn9 : (0 : Int) ≤ ((n' : Nat) : Int) := by omega
        have HZG := Lib.hid (row_room HX.out.2.2.1)
        clear hR' hi0 hz0 hz1 hz2 wi wk wd hd e1 hn0
        go_wp2
        go_loopw [19, 120] (fun rv iv wr => ∃ (k : Nat) (A : Option Addr) (ca : Nat), k ≤ n' ∧ rv = .slice A k ca ∧ iv = .int .i64 ((k : Nat) : Int) ∧ Hid (Below wc.heap.size wc wr ∧ wr.ownsRow wc.heap.size 65 3 (.slice A k ca) k ((R'.take k).flatMap Rg.enc))) (fun _ iv _ => n' - (intOf iv).toNat)
        case atStart => exact ⟨0, none, 0, Nat.zero_le _, rfl, rfl, Lib.hid ⟨Below.refl _ _, World.ownsRow_nil _ _ _ _⟩⟩
        case round =>
          obtain ⟨k, A, ca, hk, rfl, rfl, HW⟩ := hrel
          by_cases hlt : k < n'
          · have HLT := Lib.hid hlt
            have hk0 : (0 : Int) ≤ ((k : Nat) : Int) := by omega
            have hkn : ((k : Nat) : Int) < ((n' : Nat) : Int) := by omega
            have wk1 : IntKind.i64.wrap (((k : Nat) : Int) + 1) = ((k : Nat) : Int) + 1 := IntWalk.i64_in _ (by have := HX.out.2.1; omega)
            obtain ⟨a0, a1, a2, a3⟩ := row_lk HX.out.2.2.1 HX.out.1 hlt
            have zg : g < wc.heap.size := HZG.out.2.2.2
            have d0 := (HW.out.1.cell (p := ⟨g, k * 4, none⟩) zg).trans a0
            have d1 := (HW.out.1.cell (p := ⟨g, k * 4 + 1, none⟩) zg).trans a1
            have d2 := (HW.out.1.cell (p := ⟨g, k * 4 + 2, none⟩) zg).trans a2
            have d3 := (HW.out.1.cell (p := ⟨g, k * 4 + 3, none⟩) zg).trans a3
            have zw : g < wr.heap.size := Nat.lt_of_lt_of_le zg HW.out.1.size
            have HTK : Hid (R'.take (k + 1) = R'.take k ++ [(lkA L k).1]) := Lib.hid (by
              rw [List.take_add_one, HRP.out.1, List.getElem?_map, lkA_get (L := L) (k := k) (by rw [HX.out.1]; exact hlt)]
              rfl)
            obtain ⟨x, hx⟩ : ∃ z, z = lkA L k := ⟨_, rfl⟩
            rw [← hx] at d0 d1 d2 d3 HTK
            have g1 : wr.heap.size < wr.heap.size + 1 := by omega
            have g2 : wr.heap.size < wr.heap.size + 1 + 1 := by omega
            have g3 : wr.heap.size + 1 < wr.heap.size + 1 + 1 := by omega
            have hk20 : k ≤ 20 := by have := HX.out.2.1; omega
            clear a0 a1 a2 a3 zg hx hlt hk
            go_wp2_with (at_builtin; refine wpList_append_own_at _ rfl (.tmp 124) (.tmp 127) 56 rfl wc.heap.size 65 i0 (.agg #[.int .i64 0, .int .i64 0, .int .i64 0]) 3 24 Try.underlying56 hi.out.1 hi.out.2.1 hi.out.2.2.1 hi.out.2.2.2 rfl (by decide) (.slice A k ca) k ((R'.take k).flatMap Rg.enc) rfl ((HW.out.2.alloc _).alloc _) ⟨wr.heap.size + 1, 0, none⟩ 1 1 [.int .i64 x.1.m, .int .i64 x.1.h, .int .i64 x.1.v] rfl rfl ?_ ?_ ?_ ?_ ?_ ?_)
            case _ =>
              intro j z hz
              match j, hz with
              | 0, hz => simp only [List.getElem?_cons_zero, Option.some.injEq] at hz; subst hz; simp [Addr.add, go_sem]
              | 1, hz => simp only [List.getElem?_cons_zero, List.getElem?_cons_succ, Option.some.injEq] at hz; subst hz; simp [Addr.add, go_sem]
              | 2, hz => simp only [List.getElem?_cons_zero, List.getElem?_cons_succ, Option.some.injEq] at hz; subst hz; simp [Addr.add, go_sem]
            case _ => (intro z hz; simp only [List.mem_cons, List.mem_nil_iff, or_false] at hz; rcases hz with rfl | rfl | rfl <;> rfl)
            case _ => simp only [maxLen]; omega
            case _ => omega
            case _ => have := HW.out.1.size; simp only [World.size_alloc]; omega
            intro v' wz hown hg8 _ hob
            obtain ⟨A9, c9, rfl⟩ := row_slice hown
            have hX : Below wr.heap.size wr ((wr.alloc (.cells #[.int .i64 x.1.m, .int .i64 x.1.h, .int .i64 x.1.v, .int .u64 x.2] 67)).alloc (.cells #[.int .i64 x.1.m, .int .i64 x.1.h, .int .i64 x.1.v] 65)) := ((Below.refl _ _).alloc (Nat.le_refl _) _).alloc (by simp) _
            have HN9 : Hid (Below wc.heap.size wc wz ∧ wz.ownsRow wc.heap.size 65 3 (.slice A9 (k + 1) c9) (k + 1) ((R'.take (k + 1)).flatMap Rg.enc)) := Lib.hid ⟨(below3 HW.out.1 hX (Nat.le_refl _)).grown hg8 (by have := hX.size; have := HW.out.1.size; omega) (fun q e => (World.ownsRow.lt HW.out.2 q e).1), by
              rw [HTK.out, List.flatMap_append]
              exact hown⟩
            clear hown hg8 hob hX d0 d1 d2 d3 g1 g2 g3 zw
            go_wp2
            go_roundw
            case rel => exact ⟨k + 1, A9, c9, by have := HLT.out; omega, rfl, by go_num, HN9⟩
            case measure => have := HLT.out; simp [intOf]; omega
          · obtain rfl : n' = k := by omega
            have hrd : Rd wr wr.heap.size 3 Rg.enc A n' R' := by
              have h := HW.out.2
              rw [List.take_of_length_le (by rw [HRP.out.2]; exact Nat.le_refl _)] at h
              exact row_rd (f := Rg.enc) (fun _ => rfl) HRP.out.2 h
            have H6 : Hid (Below w.heap.size w wr ∧ Below wc.heap.size wc wr ∧ Rd wr wr.heap.size 4 encLk (some ⟨g, 0, none⟩) n' L) := Lib.hid ⟨below3 HX.out.2.2.2.2 HW.out.1 (Nat.le_refl _), HW.out.1, (row_rd (f := encLk) (fun _ => rfl) HX.out.1 HX.out.2.2.1).next HW.out.1⟩
            have KS := Sign_any key A n' ca R' wr hrd (by rw [HRP.out.1]; exact HX.out.2.2.2.1) (by have := HX.out.2.1; omega)
            clear hrd hlt hk
            go_wp2_with fail
            refine KS.mono ?_
            rintro e w7 ⟨OA, oc, rfl, hrow7, hB7⟩
            clear KS
            have H7 : Hid (Below w.heap.size w w7 ∧ Rd w7 w7.heap.size 4 encLk (some ⟨g, 0, none⟩) n' L ∧ Rd w7 w7.heap.size 4 encLk OA n' (chL key R' n')) := Lib.hid ⟨below3 H6.out.1 hB7 (Nat.le_refl _), H6.out.2.2.next hB7, row_rd (f := encLk) (fun _ => rfl) (chL_len _ _ _) hrow7⟩
            clear hrow7 hB7
            obtain ⟨j, hj⟩ := bad_ex key L n'
            have HJ := Lib.hid hj
            clear hj
            go_upto_block 3 with fail
            go_cut [23] from 138 to 154 (fun fv W => fv = .int .i64 ((j : Nat) : Int) ∧ Hid (Below w7.heap.size w7 W))
            case first =>
              go_wp2_with fail
              go_loopw [23] (fun fv W => ∃ k : Nat, k ≤ j ∧ fv = .int .i64 ((k : Nat) : Int) ∧ Hid (Below w7.heap.size w7 W)) (fun fv _ => n' - (intOf fv).toNat)
              case atStart => exact ⟨0, Nat.zero_le _, rfl, Lib.hid (Below.refl _ _)⟩
              case round =>
                obtain ⟨k, hk, rfl, HW7⟩ := hrel
                have HK := Lib.hid hk
                have hk0 : (0 : Int) ≤ ((k : Nat) : Int) := by omega
                have wk1 : IntKind.i64.wrap (((k : Nat) : Int) + 1) = ((k : Nat) : Int) + 1 := IntWalk.i64_in _ (by have := HX.out.2.1; have := HJ.out.le; omega)
                by_cases hlt : k < n'
                · have HLT := Lib.hid hlt
                  have hkn : ((k : Nat) : Int) < ((n' : Nat) : Int) := by omega
                  obtain ⟨b1, o1, e1, z1, a0, a1, a2, a3⟩ := lk_at (H7.out.2.1.next HW7.out) hlt
                  simp only [Option.some.injEq, Addr.mk.injEq, and_true] at e1
                  obtain ⟨rfl, rfl⟩ := e1
                  rw [Nat.zero_add] at a0 a1 a2 a3
                  obtain ⟨ob, oo, rfl, zo, o0, o1, o2, o3⟩ := lk_at (H7.out.2.2.next HW7.out) hlt
                  rw [lkA_ch _ _ _ _ hlt, HRP.out.1, lk_rg] at o0 o1 o2 o3
                  dsimp only at o0 o1 o2 o3
                  have HSK : Hid ((k < j → (lkA L k).2 = sgK key (L.map Prod.fst) (k + 1)) ∧ (k = j → (lkA L k).2 ≠ sgK key (L.map Prod.fst) (k + 1))) := Lib.hid ⟨fun h => HJ.out.ok k h, fun h => by subst h; exact HJ.out.bad hlt⟩
                  obtain ⟨s9, hs9⟩ : ∃ z, z = sgK key (L.map Prod.fst) (k + 1) := ⟨_, rfl⟩
                  rw [← hs9] at o3 HSK
                  obtain ⟨x, hx⟩ : ∃ z, z = lkA L k := ⟨_, rfl⟩
                  rw [← hx] at a0 a1 a2 a3 o0 o1 o2 HSK
                  have heq := eqLnk x.1 x.2 s9
                  clear hs9 hx hlt hk
                  by_cases hkj : k < j
                  · have hss : x.2 = s9 := HSK.out.1 hkj
                    have HKJ := Lib.hid hkj
                    rw [← hss] at o3 heq
                    rw [beq_self_eq_true] at heq
                    clear hss hkj
                    go_wp2
                    go_quiet (fail)
                    go_wp2
                    go_roundw
                    case rel => exact ⟨k + 1, HKJ.out, by go_num, Lib.hid (below_drewN HW7.out _)⟩
                    case measure => have := HLT.out; simp [intOf]; omega
                  · have hkj2 : k = j := by have := HK.out; omega
                    have HKE := Lib.hid hkj2
                    have hss : ¬ (x.2 = s9) := HSK.out.2 hkj2
                    have hsb : (x.2 == s9) = false := by rw [beq_eq_false_iff_ne]; exact hss
                    rw [hsb] at heq
                    clear hss hsb hkj hkj2
                    go_wp2
                    go_quiet (fail)
                    go_wp2
                    go_meet
                    case rel => exact ⟨by rw [HKE.out], Lib.hid (below_drewN HW7.out _)⟩
                · have hkj2 : k = j ∧ j = n' := by have := HK.out; have := HJ.out.le; omega
                  have HKE := Lib.hid hkj2
                  have hkn : ¬ (((k : Nat) : Int) < ((n' : Nat) : Int)) := by omega
                  clear hk hkj2
                  go_wp2
                  go_quiet (fail)
                  go_wp2
                  go_meet
                  case rel => exact ⟨by rw [HKE.out.1], Lib.hid (below_drewN HW7.out _)⟩
            case rest =>
              obtain ⟨rfl, HW8⟩ := hcut
              obtain ⟨w8, hw8⟩ : ∃ z, z = wc := ⟨_, rfl⟩
              have H8 : Hid (Below w.heap.size w w8 ∧ Rd w8 w8.heap.size 4 encLk (some ⟨g, 0, none⟩) n' L) := Lib.hid (by rw [hw8]; exact ⟨below3 H7.out.1 HW8.out (Nat.le_refl _), H7.out.2.1.next HW8.out⟩)
              rw [← hw8]
              clear hw8 HW8
              obtain ⟨cd, hcd⟩ : ∃ z : Int, z = if j = n' then 0 else 7 := ⟨_, rfl⟩
              have KV := Verify_any key (some ⟨g, 0, none⟩) n' xc j cd L w8 hcd H8.out.2 HX.out.2.2.2.1 (by have := HX.out.2.1; omega) HJ.out
              by_cases hjn : j = n'
              · rw [if_pos hjn] at hcd
                have ej : ((j : Nat) : Int) = ((n' : Nat) : Int) := by rw [hjn]
                subst hcd
                go_wp2_with fail
                refine KV.mono ?_
                rintro e w9 ⟨rfl, hB9⟩
                have H9 := Lib.hid (below3 H8.out.1 hB9 (Nat.le_refl _))
                clear hB9 KV
                go_wp2_with fail
                refine (awake_yes _).mono ?_
                rintro e w19 ⟨rfl, hB⟩
                have HF := Lib.hid (below3 H9.out hB (Nat.le_refl _))
                clear hB
                go_wp2
                go_ret
                exact ⟨rfl, HF.out⟩
              · rw [if_neg hjn] at hcd
                have ej : ¬ (((j : Nat) : Int) = ((n' : Nat) : Int)) := by omega
                subst hcd
                go_wp2_with fail
                refine KV.mono ?_
                rintro e w9 ⟨rfl, hB9⟩
                have H9 := Lib.hid (below3 H8.out.1 hB9 (Nat.le_refl _))
                clear hB9 KV
                go_wp2_with fail
                refine (awake_yes _).mono ?_
                rintro e w19 ⟨rfl, hB⟩
                have HF := Lib.hid (below3 H9.out hB (Nat.le_refl _))
                clear hB
                go_wp2
                go_ret
                exact ⟨rfl, HF.out⟩
end Go.Proofs.Ytcecbohaajocfaa
