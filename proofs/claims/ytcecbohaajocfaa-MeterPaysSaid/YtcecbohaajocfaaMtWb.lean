/- law11: MeterPays. -/
import Derived.Test.YtcecbohaajocfaaMtW
import Derived.Test.YtcecbohaajocfaaMtT
import Derived.Test.YtcecbohaajocfaaMtJ

set_option linter.unusedSimpArgs false
set_option linter.unusedVariables false
namespace Go.Proofs.Ytcecbohaajocfaa
open Go.RowKit

set_option maxRecDepth 100000 in
set_option maxHeartbeats 8000000 in
theorem pays_dev (A0 A1 A2 : Option Addr) (n0 c0 n1 c1 n2 c2 : Nat) (l0 l1 l2 : List Int) (x3 x4 x5 x6 x7 : Int) (w : World) (r0 : Rd w w.heap.size 1 encU A0 n0 l0) (u0 : U8s l0) (r1 : Rd w w.heap.size 1 encU A1 n1 l1) (u1 : U8s l1) (r2 : Rd w w.heap.size 1 encU A2 n2 l2) (u2 : U8s l2) (b3 : 0 ≤ x3 ∧ x3 ≤ 65535) (b4 : 0 ≤ x4 ∧ x4 ≤ 255) (b5 : 0 ≤ x5 ∧ x5 ≤ 65535) (b6 : 0 ≤ x6 ∧ x6 ≤ 65535) (b7 : 0 ≤ x7 ∧ x7 ≤ 255) (z2 : n2 ≤ c2) (y2 : n2 ≤ 9223372036854775807) :
    Calls Try.prog 7 #[.slice A0 n0 c0, .slice A1 n1 c1, .slice A2 n2 c2, .int .u16 x3, .int .u8 x4, .int .u16 x5, .int .u16 x6, .int .u8 x7] w fun e w' => e = .returned (.bool true) ∧ Below w.heap.size w w' := by
  have H0 := Lib.hid (And.intro r0 u0)
  have H1 := Lib.hid (And.intro r1 u1)
  have H2 := Lib.hid (And.intro r2 u2)
  have HB := Lib.hid (And.intro b3 (And.intro b4 (And.intro b5 (And.intro b6 b7))))
  have w5 : IntKind.i64.wrap x5 = x5 := IntWalk.i64_in _ (by omega)
  have hot := tmod_bd (x := x5) (n := 50001) b5.1 (by omega)
  obtain ⟨o, ho2⟩ : ∃ z, z = x5.tmod 50001 := ⟨_, rfl⟩
  have wr5 : x5.tmod 50001 = o := ho2.symm
  have HO : Hid (0 ≤ o ∧ o ≤ 50000) := Lib.hid (by omega)
  obtain ⟨m, hmm⟩ : ∃ z, z = min n2 100 := ⟨_, rfl⟩
  have HMM : Hid (m = min n2 100 ∧ m ≤ n2 ∧ m ≤ 100 ∧ m ≤ c2 ∧ l2.length = n2) := Lib.hid (by have := r2.1; omega)
  have wm1 : min (n2 : Int) 100 = (m : Int) := by omega
  have wm2 : (m : Int) ≤ (c2 : Int) := by omega
  have wm3 : (0 : Int) ≤ (m : Int) := by omega
  have wm4 : m ≤ c2 := by omega
  obtain ⟨i0, hi0, hi1, hi2, hi3⟩ := info_parts intInfo
  have hi := Lib.hid (And.intro hi0 (And.intro hi1 (And.intro hi2 hi3)))
  obtain ⟨i1, hj0, hj1, hj2, hj3⟩ := info_parts tierInfo
  have hj := Lib.hid (And.intro hj0 (And.intro hj1 (And.intro hj2 hj3)))
  have w3 : IntKind.i64.wrap x3 = x3 := IntWalk.i64_in _ (by omega)
  have w4 : IntKind.i64.wrap x4 = x4 := IntWalk.i64_in _ (by omega)
  have hcr := tmod_bd (x := x4) (n := 101) b4.1 (by omega)
  obtain ⟨cr, hcr2⟩ : ∃ z, z = x4.tmod 101 := ⟨_, rfl⟩
  have wr4 : x4.tmod 101 = cr := hcr2.symm
  have HCR : Hid (0 ≤ cr ∧ cr ≤ 100) := Lib.hid (by omega)
  have g1 : w.heap.size < w.heap.size + 1 := by omega
  clear r0 u0 r1 u1 r2 u2 b3 b4 b5 b6 b7 hi0 hi1 hi2 hi3 hj0 hj1 hj2 hj3 hcr hcr2 hot ho2 hmm z2 y2
  go_enter Try.func7, Try.ntmps7
  go_wp2_with fail
  obtain ⟨pb, hpb⟩ : ∃ z, z = w.heap.size := ⟨_, rfl⟩
  obtain ⟨w1, hw1⟩ : ∃ z, z = w.alloc (.cells #[.slice none 0 0, .int .i64 x3, .slice none 0 0, .int .i64 cr] 25) := ⟨_, rfl⟩
  have PB : Hid (Blk w1 pb 25 #[.slice none 0 0, .int .i64 x3, .slice none 0 0, .int .i64 cr]) := Lib.hid (by rw [hw1, hpb]; exact heap_alloc_new w _)
  have Sw1 : Hid (w1.heap.size = pb + 1) := Lib.hid (by rw [hw1, hpb, World.size_alloc])
  have Zpb : Hid (w.heap.size ≤ pb) := Lib.hid (by rw [hpb]; exact Nat.le_refl _)
  have hBn : Below w.heap.size w w1 := by rw [hw1]; exact (Below.refl _ _).alloc (Nat.le_refl _) _
  rw [← hw1, ← hpb]
  have B0 : Hid (Below w.heap.size w w1) := Lib.hid hBn
  clear hw1 hpb hBn
  obtain ⟨dx, hdx⟩ : ∃ z, z = pb + 1 := ⟨_, rfl⟩
  obtain ⟨w2, hw2⟩ : ∃ z, z = w1.alloc (.cells #[.slice A0 n0 c0, .int .i64 0] 72) := ⟨_, rfl⟩
  have DX : Hid (Blk w2 dx 72 #[.slice A0 n0 c0, .int .i64 0]) := Lib.hid (by have e2 := heap_alloc_new w1 (.cells #[.slice A0 n0 c0, .int .i64 0] 72); rw [Sw1.out] at e2; rw [hw2, hdx]; exact e2)
  have Sw2 : Hid (w2.heap.size = dx + 1) := Lib.hid (by rw [hw2, hdx, World.size_alloc, Sw1.out])
  have Zdx : Hid (w1.heap.size = dx) := Lib.hid (by rw [Sw1.out, hdx])
  have hBn : Below w1.heap.size w1 w2 := by rw [hw2]; exact (Below.refl _ _).alloc (Nat.le_refl _) _
  rw [← hw2, ← hdx]
  have B1 : Hid (Below w1.heap.size w1 w2) := Lib.hid hBn
  clear hw2 hdx hBn
  have HDB : Hid (w.heap.size ≤ dx) := Lib.hid (by have h1 := Zpb.out; have h2 := Zdx.out; have h3 := Sw1.out; omega)
  have KN := Lib.hid (fun (W : World) (i : Nat) (hd : Blk W dx 72 #[.slice A0 n0 c0, .int .i64 (i : Int)]) (hW : Below w.heap.size w W) (hi : i ≤ 1000000) => next_int dx n0 c0 w.heap.size i 256 A0 l0 W hd (H0.out.1.below hW) HDB.out H0.out.2 hi (by omega))
  have HPB : Hid (w.heap.size ≤ pb) := Lib.hid Zpb.out
  have HC0 : Hid (PrI w dx pb (.slice A0 n0 c0) x3 cr (.slice none 0 0) 0 [] w2) := Lib.hid ⟨(below3 B0.out B1.out (Nat.le_refl _)), ⟨0, Nat.le_refl _, DX.out⟩, PB.out.below B1.out PB.out.lt, World.ownsRow_nil _ _ _ _, rfl, fun y h => (by simp at h)⟩
  clear g1
  go_loopw [41] (fun i wr => ∃ (k : Nat) (L : List Int) (vv : Value), k ≤ 24 ∧ i = .int .i64 ((k : Nat) : Int) ∧ Hid (PrI w dx pb (.slice A0 n0 c0) x3 cr vv k L wr)) (fun i _ => 24 - (intOf i).toNat)
  case atStart => exact ⟨0, [], _, by omega, rfl, HC0⟩
  case round =>
    obtain ⟨k, L, vv, hk, rfl, HCD⟩ := hrel
    by_cases hlt : k < 24
    · have HK4 : Hid (k ≤ 24) := Lib.hid (by omega)
      have hk1 : ((k : Nat) : Int) < 24 := by omega
      go_wp2
      refine wp_region_free10 7 (by kernel_rfl) [some 43, some 44, some 45, some 46, some 47, some 48, some 49, none] [[], [0], [], [2], [3], [1, 4, 3], [0, 1, 2, 3, 4, 5], [6, 5, 5, 0, 1, 2, 3, 4, 5]] [(17, .pointer (some ⟨pb, 0, none⟩)), (18, .pointer (some ⟨dx, 0, none⟩))] (prR w dx pb (.slice A0 n0 c0) x3 cr vv k L) (prPhi w dx pb x3 cr vv k L) (prPsi) (by kernel_rfl) (by kernel_rfl) rfl (by kernel_rfl) ?_ ?_ ⟨fun _ => 0, ⟨⟨HCD.out.low.drew, by obtain ⟨i, hi, hd⟩ := HCD.out.dig; exact ⟨i, Nat.le_trans hi (Nat.le_add_right _ _), hd.below (Below.refl _ _).drew hd.lt⟩⟩, fun _ => HCD.out.box.below (Below.refl _ _).drew HCD.out.box.lt, fun _ => row_next HCD.out.row (Below.refl _ _).drew⟩, fun i _ => ⟨rfl, fun _ => rfl, fun _ => rfl⟩⟩ ?_ ?_
      · intro z hz
        simp only [List.mem_cons, List.mem_nil_iff, or_false] at hz
        rcases hz with rfl | rfl
        all_goals exact ⟨by kernel_rfl, rfl⟩
      · intro i v W γ hi h
        rcases i with _ | _ | _ | _ | _ | _ | _ | _ | i
        all_goals first | exact h | (simp at hi)
      · refine ⟨?_, ?_, ?_, ?_, ?_, ?_, ?_, ?_, trivial⟩
        all_goals
          intro a9 W γ ev hcc hff hfx hR hψ hpre
          simp only [List.mem_cons, List.mem_nil_iff, or_false, forall_eq, forall_eq_or_imp] at hfx
          obtain ⟨f0, f1⟩ := hfx
          have HR := Lib.hid hR
          clear hR
          refine ⟨fun _ K hK => ?_, trivial⟩

        · clear hpre hψ
          go_simp
          exact hK _ _ γ HR.out (fun _ _ _ _ h => h) (fun _ _ _ h => h) rfl
        · have q0 : ev (.tmp 43) = _ := hpre 0 (by decide)
          have hbx := HR.out.2.1 hψ.1
          have hzx := hbx.lt
          have c4 := hbx.cell 0
          simp only [List.getElem?_toArray, List.getElem?_cons_zero, List.getElem?_cons_succ] at c4
          clear hbx
          clear hpre hψ
          go_simp
          exact hK _ _ γ HR.out (fun _ _ _ _ h => h) (fun _ _ _ h => h) rfl
        · clear hpre hψ
          go_simp
          exact hK _ _ γ HR.out (fun _ _ _ _ h => h) (fun _ _ _ h => h) rfl
        · have q0 : ev (.tmp 45) = _ := hpre 2 (by decide)
          have h20 : γ 2 = 0 := hψ.2.2 rfl
          obtain ⟨⟨r1, i9, hi9, r3⟩, r4, r5⟩ := HR.out
          rw [h20] at hi9
          have C := Lib.hid (KN.out W i9 r3 r1 (by have := HK4.out; omega))
          have HX := Lib.hid (And.intro (And.intro r1 (And.intro hi9 r3)) (And.intro r4 r5))
          clear r1 r3 r4 r5 hi9 hpre
          have HP := Lib.hid hψ
          clear hψ
          go_simp
          refine C.out.mono ?_
          rintro e w8 ⟨x, rfl, hr, hk7, hb7⟩
          obtain ⟨⟨r1, hi9, r3⟩, r4, r5⟩ := HX.out
          have hkg := keep_grown hk7
          refine hK _ w8 (fun i => if i = 2 then 1 else γ i) ⟨⟨r1.trans (hk7.below r1.size (fun b e => by rw [e]; exact HDB.out)), i9 + 1, by simp; omega, hb7⟩, fun e => hk7.blk (r4 e) (fun e' => blk_ne (r4 e) r3 (by decide) e'), fun e => (r5 e).kept hkg (Or.inr (own_ne (r5 e) r3 (by decide)).symm)⟩ (fun j u hj hne h => prPhi_turn (fun b cs hc => hk7.blk hc (fun e => blk_ne hc r3 (by decide) e)) rfl hne (fun e => by subst e; exact absurd (by decide) hj) (fun e => by subst e; exact absurd (by decide) hj) h) (fun _ j h1 h2 => ⟨h2.1, h2.2.1, fun e => absurd e h1⟩) ⟨x, rfl, hr, rfl⟩
        · obtain ⟨r, q0, hr, _⟩ := hpre 3 (by decide)
          replace q0 : ev (.tmp 46) = _ := q0
          have HRW9 := HR
          have HRR := Lib.hid hr
          clear hpre hψ hr
          go_simp
          obtain ⟨⟨r1, i9, hi9, r3⟩, r4, r5⟩ := HRW9.out
          have hB5 : Below W.heap.size W (W.alloc (.cells #[.int .i64 r] 3)) := (Below.refl _ _).alloc (Nat.le_refl _) _
          exact hK _ _ γ ⟨⟨below3 r1 hB5 (Nat.le_refl _), i9, hi9, r3.below hB5 r3.lt⟩, fun e => (r4 e).below hB5 (r4 e).lt, fun e => row_next (r5 e) hB5⟩ (fun j u _ _ h => prPhi_next hB5 h) (fun _ _ _ h => h) ⟨W.heap.size, r, rfl, HRR.out, fun _ => heap_alloc_new W _⟩
        · have q0 : ev (.tmp 44) = _ := hpre 1 (by decide)
          have hγ1 : γ 1 = 0 := hψ.2.1 rfl
          have hγ0 : γ 0 = 0 := hψ.1
          obtain ⟨b1, r, q6, hrr, hb1⟩ := hpre 4 (by decide)
          replace q6 : ev (.tmp 47) = _ := q6
          have hb1 := hb1 hγ1
          obtain ⟨⟨r1, i9, hi9, r3⟩, r4, r5⟩ := HR.out
          have hrow := r5 hγ1
          have hbx := r4 hγ0
          obtain ⟨v', W', hr, h2, h3, _, _⟩ := run_append_own_at (P := Try.prog) W w.heap.size 22 22 3 i0 (.int .i64 0) 1 8 Try.underlying22 hi.out.1 hi.out.2.1 hi.out.2.2.1 hi.out.2.2.2 rfl (by decide) vv k (L.flatMap encI) hrow ⟨b1, 0, none⟩ 1 1 [.int .i64 r] rfl (fun j u hj => by
            rw [add0, Blk.cell hb1]
            simpa using hj) (by intro u hu; simp only [List.mem_cons, List.mem_nil_iff, or_false] at hu; subst hu; rfl) (by have := HK4.out; simp only [maxLen]; omega) (by have := HK4.out; omega) r1.size
          unfold execOp
          simp only [resolve, invoke, builtin, Sem.run_bind, Sem.run_pure, Result.andThen_ok, List.map_toArray, List.map_cons, List.map_nil, q0, q6, hr]
          rw [show L.flatMap encI ++ [.int .i64 r] = (L ++ [r]).flatMap encI by rw [List.flatMap_append]; rfl] at h2
          obtain ⟨A', c', e'⟩ := row_slice h2
          subst e'
          have hbl : Below w.heap.size W W' := (Below.refl _ _).grown h3 r1.size (fun r e => (World.ownsRow.lt hrow r e).1)
          refine hK _ W' (fun i => if i = 1 then 1 else γ i) ⟨⟨r1.trans hbl, i9, hi9, r3.kept h3 (own_ne hrow r3 (by decide))⟩, fun e => hbx.kept h3 (own_ne hrow hbx (by decide)), fun e => by simp at e⟩ (fun j u hj hne h => prPhi_grown hne (fun e => by subst e; exact absurd (by decide) hj) (by simp) rfl h) (fun _ j h1 h2 => ⟨h2.1, fun e => absurd e h1, h2.2.2⟩) ⟨A', c', r, rfl, hrr, by simpa using h2⟩
        · clear hpre hψ
          go_simp
          exact hK _ _ γ HR.out (fun _ _ _ _ h => h) (fun _ _ _ h => h) rfl
        · have q0 : ev (.tmp 49) = _ := hpre 6 (by decide)
          have hγ0 : γ 0 = 0 := hψ.1
          obtain ⟨A9, c8, r, q7, hrr, hrow⟩ := hpre 5 (by decide)
          replace q7 : ev (.tmp 48) = _ := q7
          obtain ⟨⟨r1, i9, hi9, r3⟩, r4, r5⟩ := HR.out
          have hbx := r4 hγ0
          have hzx := hbx.lt
          have fz := hbx.frozen
          have c4 := hbx.cell 0
          simp only [List.getElem?_toArray, List.getElem?_cons_zero, List.getElem?_cons_succ] at c4
          have HX := Lib.hid (And.intro hbx (And.intro hrow (And.intro r1 (And.intro (And.intro hi9 r3) hrr))))
          clear hpre hbx hrow r1 r3 r4 r5 hi9 hrr hψ
          go_simp
          obtain ⟨hbx, hrow, r1, ⟨hi9, r3⟩, hrr⟩ := HX.out
          refine hK undef _ (fun i => if i = 2 then γ 2 else 1) ⟨⟨r1.setCell HPB.out _, i9, by simpa using hi9, r3.far (fun e => blk_ne hbx r3 (by decide) e.symm) _⟩, fun e => by simp at e, fun e => by simp at e⟩ (fun j u h1 h2 h3 => prPhi_store hbx (by simp) (by simp) h2 h3) (fun h => absurd rfl h) ⟨A9, c8, r, hrr, ?_, hrow.kept (grown_set W pb 0 _) (Or.inr (own_ne hrow hbx (by decide)).symm)⟩
          have h := hbx.set_ 0 (.slice A9 (k + 1) c8)
          simpa using h
      · intro vs wy γ hvl hR hφ
        have q3 := hφ 3 (by decide)
        have q8 := hφ 7 (by decide)
        have HR := Lib.hid hR
        clear hφ hR
        match vs, hvl with
        | [y0, y1, y2, y3, y4, y5, y6, y7], _ =>
        simp only [List.getD_cons_zero, List.getD_cons_succ] at q3 q8
        obtain ⟨_, -, _, hγ2⟩ := q3
        obtain ⟨A9, c9, r9, hr9, hbx9, hro9⟩ := q8
        have HN : Hid (PrI w dx pb (.slice A0 n0 c0) x3 cr (.slice A9 (k + 1) c9) (k + 1) (L ++ [r9]) wy) := Lib.hid ⟨HR.out.1.1, by obtain ⟨i, h1, h2⟩ := HR.out.1.2; rw [hγ2] at h1; exact ⟨i, by omega, h2⟩, hbx9, hro9, by rw [List.length_append, HCD.out.len]; rfl, all_snoc2 HCD.out.bd (by omega)⟩
        clear HR hγ2 hro9 hr9 hbx9
        simp [putAll]
        go_wp2
        go_roundw
        case rel => exact ⟨k + 1, L ++ [r9], _, by omega, by go_num, HN⟩
        case measure => simp [intOf]; omega
    · obtain ⟨A9, c9, rfl⟩ := row_slice HCD.out.row
      have HK := Lib.hid (show k = 24 by omega)
      have hd5 : decide (k < 24) = false := decide_eq_false hlt
      have hd6 : ¬ ((k : Int) < 24) := by omega
      have hln : L.length = 24 := by rw [HCD.out.len]; exact HK.out
      obtain ⟨A8, c8, gb, e8, hrw, _⟩ := RowW.of_own (l := L) (by rw [HCD.out.len]; exact HCD.out.row)
      simp only [Value.slice.injEq] at e8
      obtain ⟨rfl, e9, rfl⟩ := e8
      have hcur : ∃ cur, Blk wr gb 3 cur ∧ (∀ (j : Nat) u, (L.flatMap encI)[j]? = some u → cur[j]? = some u) ∧ A9 = some ⟨gb, 0, none⟩ := by
        rcases hrw with h | ⟨h1, cur, h2, h3⟩
        · rw [h] at hln; exact absurd hln (by decide)
        · exact ⟨cur, h2, h3, h1⟩
      obtain ⟨cur, hcb, hcc, rfl⟩ := hcur
      have HPR := Lib.hid (And.intro hln (And.intro hcc HCD.out.bd))
      have HT0 : Hid (TrI w pb gb c9 cur x3 cr (.slice none 0 0) 0 [] wr) := Lib.hid ⟨HCD.out.low, hcb, by have := HCD.out.box; rw [HK.out] at this; exact this, World.ownsRow_nil _ _ _ _⟩
      have HQ0 : Hid (TiQ [] 0 0 0) := Lib.hid ⟨rfl, fun i x h => by simp at h, by simp [lstM], by simp [lstP]⟩
      obtain ⟨wa, hwa⟩ : ∃ z, z = wr := ⟨wr, rfl⟩
      subst hwa
      clear hk hlt hln e9 hrw hcb hcc
      go_upto_block 2 with fail
      go_cut [19, 20, 21] from 51 to 88 (fun mv pv iv wr => ∃ (k : Nat) (M p : Int) (L : List Sp) (vv iw : Value), mv = .int .i64 M ∧ pv = .int .i64 p ∧ iv = iw ∧ k ≤ 8 ∧ Hid (TrI w pb gb c9 cur x3 cr vv k L wr ∧ TiQ L k M p))
      case first =>
        go_wp2_with fail
        go_loopw [19, 20, 21] (fun mv pv iv wr => ∃ (k : Nat) (M p : Int) (L : List Sp) (vv : Value), k ≤ 8 ∧ mv = .int .i64 M ∧ pv = .int .i64 p ∧ iv = .int .i64 ((2 * k : Nat) : Int) ∧ Hid (TrI w pb gb c9 cur x3 cr vv k L wr ∧ TiQ L k M p)) (fun _ _ iv _ => 16 - (intOf iv).toNat)
        case atStart => exact ⟨0, 0, 0, [], _, by omega, rfl, rfl, rfl, Lib.hid ⟨HT0.out, HQ0.out⟩⟩
        case round =>
          obtain ⟨k, M, p, L2, vv, hk, rfl, rfl, rfl, HT⟩ := hrel
          obtain ⟨i, hii⟩ : ∃ z, z = 2 * k := ⟨_, rfl⟩
          rw [← hii]
          have HII := Lib.hid hii
          have HK8 := Lib.hid hk
          have hi16 : i ≤ 16 := by omega
          have hi0 : (0 : Int) ≤ (i : Int) := by omega
          obtain ⟨i1n, hi1n⟩ : ∃ z, z = i + 1 := ⟨_, rfl⟩
          have HI1 := Lib.hid hi1n
          have wi1 : IntKind.i64.wrap ((i : Int) + 1) = (i1n : Int) := by rw [hi1n]; exact IntWalk.i64_in _ (by omega)
          have hn0 : (0 : Int) ≤ (i1n : Int) := by omega
          clear hii hk
          by_cases h1 : i1n < n1
          · have e1 : (i1n : Int) < (n1 : Int) := by omega
            have f1 : decide ((i1n : Int) < (n1 : Int)) = true := decide_eq_true e1
            have f1n : decide (i1n < n1) = true := decide_eq_true h1
            by_cases h2 : i < 16
            · have e2 : (i : Int) < 16 := by omega
              have e3 : (i : Int) < (n1 : Int) := by omega
              have f2 : decide ((i : Int) < 16) = true := decide_eq_true e2
              have HLT := Lib.hid h2
              have hk7 : k ≤ 7 := by have := HII.out; omega
              obtain ⟨ab, ao, ta, eA, hab, hax, hac⟩ := H1.out.1.at_ (show i < n1 by omega)
              obtain ⟨ab2, ao2, tc, eB, _, hbx, hbc⟩ := H1.out.1.at_ h1
              have heq := eA.symm.trans eB
              simp only [Option.some.injEq, Addr.mk.injEq, and_true] at heq
              obtain ⟨rfl, rfl⟩ := heq
              have ca := (HT.out.1.low.cell (p := ⟨ab, ao + i, none⟩) hab).trans (cellU hac)
              have cb := (HT.out.1.low.cell (p := ⟨ab, ao + i1n, none⟩) hab).trans (cellU hbc)
              have za : ab < wr.heap.size := Nat.lt_of_lt_of_le hab HT.out.1.low.size
              have ba := H1.out.2 ta (List.mem_of_getElem? hax)
              have bb := H1.out.2 tc (List.mem_of_getElem? hbx)
              have htm := tmod_bd (x := tc) (n := 20) bb.1 (by omega)
              obtain ⟨q, hq⟩ : ∃ z, z = tc.tmod 20 := ⟨_, rfl⟩
              have hq2 : tc.tmod 20 = q := hq.symm
              have hst := HT.out.2.step (a := ta) (b := q) hk7 ba (by rw [hq]; exact htm)
              have hMb := HT.out.2.m
              have hpb := HT.out.2.p
              rw [← hq] at htm
              have v1 : IntKind.i64.wrap ta = ta := IntWalk.i64_in _ (by omega)
              have v2 : IntKind.i64.wrap (20 * ta) = 20 * ta := IntWalk.i64_in _ (by omega)
              have v3 : IntKind.i64.wrap (1 + 20 * ta) = 1 + 20 * ta := IntWalk.i64_in _ (by omega)
              obtain ⟨M9, hM9⟩ : ∃ z, z = M + (1 + 20 * ta) := ⟨_, rfl⟩
              have v4 : IntKind.i64.wrap (M + (1 + 20 * ta)) = M9 := by rw [hM9]; exact IntWalk.i64_in _ (by omega)
              have v5 : IntKind.i64.wrap q = q := IntWalk.i64_in _ (by omega)
              have v6 : IntKind.i64.wrap (p + q) = p + q := IntWalk.i64_in _ (by omega)
              obtain ⟨p9, hp9⟩ : ∃ z, z = min (p + q) 100 := ⟨_, rfl⟩
              have v7 : min (p + q) 100 = p9 := hp9.symm
              rw [← hM9, ← hp9] at hst
              have HST := Lib.hid hst
              have v8 : IntKind.i64.wrap ((i : Int) + 2) = ((2 * (k + 1) : Nat) : Int) := by have := HII.out; rw [IntWalk.i64_in _ (by omega)]; omega
              obtain ⟨i9, hi9⟩ : ∃ z, z = 2 * (k + 1) := ⟨_, rfl⟩
              rw [← hi9] at v8
              have HI9 := Lib.hid hi9
              have b0 := HT.out.1.box.cell 2
              simp only [List.getElem?_toArray, List.getElem?_cons_zero, List.getElem?_cons_succ] at b0
              have zb := HT.out.1.box.lt
              have g1 : wr.heap.size < wr.heap.size + 1 := by omega
              clear hax hac hbx hbc hab ba bb htm hq hst hMb hpb hM9 hp9 eB h1 h2 hi9 hi1n hk7
              subst eA
              go_wp2_with (at_builtin; refine wpList_append_own_at _ rfl (.tmp 82) (.tmp 86) 23 rfl w.heap.size 75 i1 (.agg #[.int .i64 0, .int .i64 0]) 2 16 Try.underlying23 hj.out.1 hj.out.2.1 hj.out.2.2.1 hj.out.2.2.2 rfl (by decide) vv k (L2.flatMap encS) rfl (HT.out.1.row.alloc _) ⟨wr.heap.size, 0, none⟩ 1 1 [.int .i64 M9, .int .i64 p9] rfl rfl ?_ ?_ ?_ ?_ ?_ ?_)
              case _ =>
                intro j z hz
                match j, hz with
                | 0, hz =>
                  simp only [List.getElem?_cons_zero, Option.some.injEq] at hz
                  subst hz
                  simp [Addr.add, go_sem]
                | 1, hz =>
                  simp only [List.getElem?_cons_zero, List.getElem?_cons_succ, Option.some.injEq] at hz
                  subst hz
                  simp [Addr.add, go_sem]
              case _ => (intro z hz; simp only [List.mem_cons, List.mem_nil_iff, or_false] at hz; rcases hz with rfl | rfl <;> rfl)
              case _ => have := HK8.out; simp only [maxLen]; omega
              case _ => have := HK8.out; omega
              case _ => have := HT.out.1.low.size; simp only [World.size_alloc]; omega
              intro v' wy hown hg8 _ _
              obtain ⟨A7, c7, rfl⟩ := row_slice hown
              have hX : Below wr.heap.size wr (wr.alloc (.cells #[.int .i64 M9, .int .i64 p9] 75)) := (Below.refl _ _).alloc (Nat.le_refl _) _
              have HBY : Hid (Blk wy pb 25 #[.slice (some ⟨gb, 0, none⟩) 24 c9, .int .i64 x3, vv, .int .i64 cr]) := Lib.hid ((HT.out.1.box.alloc _).kept hg8 (own_ne HT.out.1.row HT.out.1.box (by decide)))
              have HPY : Hid (Blk wy gb 3 cur) := Lib.hid ((HT.out.1.pr.alloc _).kept hg8 (own_ne HT.out.1.row HT.out.1.pr (by decide)))
              have HLY : Hid (Below w.heap.size w wy) := Lib.hid ((below3 HT.out.1.low hX (Nat.le_refl _)).grown hg8 (by have := hX.size; have := HT.out.1.low.size; omega) (fun r e => (World.ownsRow.lt HT.out.1.row r e).1))
              have HOY : Hid (wy.ownsRow w.heap.size 75 2 (.slice A7 (k + 1) c7) (k + 1) ((L2 ++ [(M9, p9)]).flatMap encS)) := Lib.hid (by rw [List.flatMap_append]; exact hown)
              have e0 := HBY.out.cell 2
              simp only [List.getElem?_toArray, List.getElem?_cons_zero, List.getElem?_cons_succ] at e0
              have ze := HBY.out.lt
              have fe := HBY.out.frozen
              obtain ⟨W', hW'⟩ : ∃ z, z = wy.setCell ⟨pb, 2, none⟩ (.slice A7 (k + 1) c7) := ⟨_, rfl⟩
              have HN9 : Hid (TrI w pb gb c9 cur x3 cr (.slice A7 (k + 1) c7) (k + 1) (L2 ++ [(M9, p9)]) W' ∧ TiQ (L2 ++ [(M9, p9)]) (k + 1) M9 p9) := Lib.hid ⟨⟨by rw [hW']; exact HLY.out.setCell (p := ⟨pb, 2, none⟩) HPB.out _, by rw [hW']; exact HPY.out.far (fun e => blk_ne HPY.out HBY.out (by decide) e) _, by
                rw [hW']
                have h := HBY.out.set_ 2 (.slice A7 (k + 1) c7)
                simpa using h, by rw [hW']; exact HOY.out.kept (grown_set wy pb 2 _) (Or.inr (own_ne HOY.out HBY.out (by decide)).symm)⟩, HST.out⟩
              clear hown hg8 hX b0 zb g1 ca cb za
              go_wp2
              rw [← hW']
              go_roundw
              case rel => exact ⟨k + 1, M9, p9, _, _, by have := HLT.out; have := HII.out; omega, rfl, rfl, by rw [HI9.out], HN9⟩
              case measure => have := HLT.out; have := HII.out; have := HI9.out; simp [intOf]; omega
            · have e2 : ¬ ((i : Int) < 16) := by omega
              have f2 : decide ((i : Int) < 16) = false := decide_eq_false e2
              clear h1 h2
              go_wp2_with fail
              all_goals (go_meet; exact ⟨k, M, p, L2, vv, _, rfl, rfl, rfl, HK8.out, HT⟩)
          · have e1 : ¬ ((i1n : Int) < (n1 : Int)) := by omega
            have f1 : decide ((i1n : Int) < (n1 : Int)) = false := decide_eq_false e1
            have f1n : decide (i1n < n1) = false := decide_eq_false h1
            clear h1
            go_wp2_with fail
            all_goals (go_meet; exact ⟨k, M, p, L2, vv, _, rfl, rfl, rfl, HK8.out, HT⟩)
      obtain ⟨k2, M2, p2, L2, vv2, iw, rfl, rfl, rfl, hk8, HT⟩ := hcut
      obtain ⟨wb, hwb⟩ : ∃ z, z = wc := ⟨wc, rfl⟩
      subst hwb
      obtain ⟨A7, c7, tb, e7, hrw, _⟩ := RowW.of_own (l := L2) (by rw [HT.out.2.len]; exact HT.out.1.row)
      rw [HT.out.2.len] at e7
      have HT9 : Hid (TrfIn wb wb.heap.size k2 (some ⟨gb, 0, none⟩) A7 ⟨L, x3, L2, cr⟩) := Lib.hid ⟨RowW.rd (T := 3) (b := gb) (l := L) (fun _ => rfl) HPR.out.1 (.inr ⟨rfl, cur, HT.out.1.pr, HPR.out.2.1⟩), hrw.rd (fun _ => rfl) HT.out.2.len⟩
      have HK9 : Hid (TrfOk ⟨L, x3, L2, cr⟩) := Lib.hid ⟨HPR.out.1, fun x hx => by have := HPR.out.2.2 x hx; omega, by have := HB.out.1; dsimp only; omega, by have := HT.out.2.len; dsimp only; omega, HT.out.2.ok, HCR.out⟩
      have hbx := HT.out.1.box
      rw [e7] at hbx
      have HBX := Lib.hid hbx
      have HLW := Lib.hid HT.out.1.low
      have g1 : wb.heap.size < wb.heap.size + 1 := by omega
      clear HT HC0 HT0 HQ0 e7 hrw hbx hk8
      go_wp2
      obtain ⟨ub, hub⟩ : ∃ z, z = wb.heap.size := ⟨_, rfl⟩
      obtain ⟨wu, hwu⟩ : ∃ z, z = wb.alloc (.cells #[.slice none 0 0, .int .i64 o] 28) := ⟨_, rfl⟩
      have hBu : Below wb.heap.size wb wu := by rw [hwu]; exact (Below.refl _ _).alloc (Nat.le_refl _) _
      have hub2 : Blk wu ub 28 #[.slice none 0 0, .int .i64 o] := by rw [hwu, hub]; exact heap_alloc_new wb _
      have HU0 : Hid (Below wb.heap.size wb wu ∧ Blk wu ub 28 #[.slice none 0 0, .int .i64 o] ∧ wu.ownsRow wb.heap.size 3 1 (.slice none 0 0) 0 ((l2.take 0).flatMap encI)) := Lib.hid ⟨hBu, hub2, World.ownsRow_nil _ _ _ _⟩
      have HUB : Hid (wb.heap.size ≤ ub) := Lib.hid (by omega)
      rw [← hwu, ← hub]
      clear hwu hub hBu hub2 g1
      go_loopw [24, 99] (fun dv iv wr => ∃ (k : Nat) (vv du : Value), k ≤ m ∧ dv = du ∧ iv = .int .i64 ((k : Nat) : Int) ∧ Hid (Below wb.heap.size wb wr ∧ Blk wr ub 28 #[vv, .int .i64 o] ∧ wr.ownsRow wb.heap.size 3 1 vv k ((l2.take k).flatMap encI))) (fun _ iv _ => m - (intOf iv).toNat)
      case atStart => exact ⟨0, _, _, by omega, rfl, rfl, HU0⟩
      case round =>
        obtain ⟨k, vv, du, hk, rfl, rfl, HU⟩ := hrel
        by_cases hlt : k < m
        · have HLT := Lib.hid hlt
          have hk0 : (0 : Int) ≤ (k : Int) := by omega
          have hkn : (k : Int) < (m : Int) := by omega
          have hk9 : (k : Int) ≤ 100 := by have := HMM.out; omega
          obtain ⟨ab, ao, ta, eA, hab, hax, hac⟩ := H2.out.1.at_ (show k < n2 by have := HMM.out; omega)
          have hlo := below3 HLW.out HU.out.1 (Nat.le_refl _)
          have ca := (hlo.cell (p := ⟨ab, ao + k, none⟩) hab).trans (cellU hac)
          have za : ab < wr.heap.size := Nat.lt_of_lt_of_le hab hlo.size
          have ba := H2.out.2 ta (List.mem_of_getElem? hax)
          have v1 : IntKind.i64.wrap ta = ta := IntWalk.i64_in _ (by omega)
          have HTK : Hid ((l2.take (k + 1)).flatMap encI = (l2.take k).flatMap encI ++ [.int .i64 ta]) := Lib.hid (by rw [List.take_add_one, hax, List.flatMap_append]; rfl)
          have b0 := HU.out.2.1.cell 0
          simp only [List.getElem?_toArray, List.getElem?_cons_zero, List.getElem?_cons_succ] at b0
          have zb := HU.out.2.1.lt
          have g1 : wr.heap.size < wr.heap.size + 1 := by omega
          clear hax hac hab ba hlo hlt hk
          have HEA := Lib.hid eA
          rw [eA]
          clear eA
          go_wp2_with (at_builtin; refine wpList_append_own_at _ rfl (.tmp 104) (.tmp 107) 22 rfl wb.heap.size 3 i0 (.int .i64 0) 1 8 Try.underlying22 hi.out.1 hi.out.2.1 hi.out.2.2.1 hi.out.2.2.2 rfl (by decide) vv k ((l2.take k).flatMap encI) rfl (HU.out.2.2.alloc _) ⟨wr.heap.size, 0, none⟩ 1 1 [.int .i64 ta] rfl rfl ?_ ?_ ?_ ?_ ?_ ?_)
          case _ =>
            intro j z hz
            match j, hz with
            | 0, hz =>
              simp only [List.getElem?_cons_zero, Option.some.injEq] at hz
              subst hz
              simp [Addr.add, go_sem]
          case _ => (intro z hz; simp only [List.mem_cons, List.mem_nil_iff, or_false] at hz; subst hz; rfl)
          case _ => simp only [maxLen]; omega
          case _ => omega
          case _ => have := HU.out.1.size; simp only [World.size_alloc]; omega
          intro v' wy hown hg8 _ _
          obtain ⟨A5, c5, rfl⟩ := row_slice hown
          have hX : Below wr.heap.size wr (wr.alloc (.cells #[.int .i64 ta] 3)) := (Below.refl _ _).alloc (Nat.le_refl _) _
          have HBY : Hid (Blk wy ub 28 #[vv, .int .i64 o]) := Lib.hid ((HU.out.2.1.alloc _).kept hg8 (own_ne HU.out.2.2 HU.out.2.1 (by decide)))
          have HLY : Hid (Below wb.heap.size wb wy) := Lib.hid ((below3 HU.out.1 hX (Nat.le_refl _)).grown hg8 (by have := hX.size; have := HU.out.1.size; omega) (fun r e => (World.ownsRow.lt HU.out.2.2 r e).1))
          have HOY : Hid (wy.ownsRow wb.heap.size 3 1 (.slice A5 (k + 1) c5) (k + 1) ((l2.take (k + 1)).flatMap encI)) := Lib.hid (by rw [HTK.out]; exact hown)
          have e0 := HBY.out.cell 0
          simp only [List.getElem?_toArray, List.getElem?_cons_zero, List.getElem?_cons_succ] at e0
          have ze := HBY.out.lt
          have fe := HBY.out.frozen
          obtain ⟨W', hW'⟩ : ∃ z, z = wy.setCell ⟨ub, 0, none⟩ (.slice A5 (k + 1) c5) := ⟨_, rfl⟩
          have HN9 : Hid (Below wb.heap.size wb W' ∧ Blk W' ub 28 #[.slice A5 (k + 1) c5, .int .i64 o] ∧ W'.ownsRow wb.heap.size 3 1 (.slice A5 (k + 1) c5) (k + 1) ((l2.take (k + 1)).flatMap encI)) := Lib.hid ⟨by rw [hW']; exact HLY.out.setCell (p := ⟨ub, 0, none⟩) HUB.out _, by
            rw [hW']
            have h := HBY.out.set_ 0 (.slice A5 (k + 1) c5)
            simpa using h, by rw [hW']; exact HOY.out.kept (grown_set wy ub 0 _) (Or.inr (own_ne HOY.out HBY.out (by decide)).symm)⟩
          clear hown hg8 hX b0 zb g1 ca za
          go_wp2
          rw [← hW']
          refine ⟨⟨k + 1, _, _, by have := HLT.out; omega, rfl, by go_num, HN9⟩, ?_⟩
          have := HLT.out
          simp [intOf]
          omega
        · obtain rfl : m = k := by omega
          obtain ⟨vals, hvals⟩ : ∃ z, z = l2.take m := ⟨_, rfl⟩
          have hvl : vals.length = m := by rw [hvals, List.length_take]; have := HMM.out; omega
          have hvb : ∀ x ∈ vals, 0 ≤ x ∧ x ≤ 100000 := fun x hx => by rw [hvals] at hx; have := H2.out.2 x (List.mem_of_mem_take hx); omega
          have hro := HU.out.2.2
          rw [← hvals] at hro
          obtain ⟨A5, c5, vb, e5, hrw, _⟩ := RowW.of_own (l := vals) (by rw [hvl]; exact hro)
          rw [hvl] at e5
          have HA5 : Hid (m ≤ c5 ∧ ((A5 = none ∧ m = 0 ∧ c5 = 0) ∨ ∃ g, A5 = some ⟨g, 0, none⟩)) := Lib.hid (by
            rcases hro.2 with ⟨e, h0⟩ | ⟨g, cap, cur, e, _, _, hcp, _⟩
            · have e9 := e5.symm.trans e
              simp only [Value.slice.injEq] at e9
              obtain ⟨r1, r2, r3⟩ := e9
              exact ⟨by omega, Or.inl ⟨r1, r2, r3⟩⟩
            · have e9 := e5.symm.trans e
              simp only [Value.slice.injEq] at e9
              obtain ⟨r1, r2, r3⟩ := e9
              exact ⟨by omega, Or.inr ⟨g, r1⟩⟩)
          have hux := HU.out.2.1
          rw [e5] at hux
          have HUX := Lib.hid hux
          obtain ⟨wA, hwA⟩ : ∃ z, z = wr := ⟨wr, rfl⟩
          subst hwA
          have HVR : Hid (Rd wA wA.heap.size 1 encI A5 m vals) := Lib.hid (hrw.rd (fun _ => rfl) hvl)
          have HVB := Lib.hid (And.intro hvl hvb)
          have HTA := Lib.hid (HT9.out.next HU.out.1)
          have HBA := Lib.hid (HBX.out.below HU.out.1 HBX.out.lt)
          have HLA : Hid (Below w.heap.size w wA) := Lib.hid (below3 HLW.out HU.out.1 (Nat.le_refl _))
          have HPU : Hid (w.heap.size ≤ pb ∧ pb < ub ∧ ub < wA.heap.size) := Lib.hid (by have h1 := HPB.out; have h2 := HBX.out.lt; have h3 := HUB.out; have h4 := HUX.out.lt; omega)
          clear hro e5 hrw hux hvl hvb hvals hk hlt HU HT9 HBX
          have KM := Lib.hid (fun (ua : Option Addr) (un uc : Nat) (vs : List Int) (uo : Int) W (h : Below wA.heap.size wA W) (h1 : vs.length ≤ 1000) (hv : ∀ x ∈ vs, 0 ≤ x ∧ x ≤ 100000) (ho : 0 ≤ uo ∧ uo ≤ 50000) (hr : Rd W W.heap.size 1 encI ua un vs) => Make_yes L x3 L2 cr vs uo (some ⟨gb, 0, none⟩) A7 ua c9 k2 c7 un uc W HK9.out (HTA.out.next h) h1 hv ho hr)
          have t0 := HBA.out.cell 0
          have t1 := HBA.out.cell 1
          have t2 := HBA.out.cell 2
          have t3 := HBA.out.cell 3
          have s0 := HUX.out.cell 0
          have s1 := HUX.out.cell 1
          simp only [List.getElem?_toArray, List.getElem?_cons_zero, List.getElem?_cons_succ] at t0 t1 t2 t3 s0 s1
          have zt := HBA.out.lt
          have zs := HUX.out.lt
          have HBL : Hid (0 ≤ engK vals m ∧ (0 ≤ amtK L vals x3 m ∧ amtK L vals x3 m ≤ 101000000000) ∧ (0 ≤ crdK L vals x3 L2 cr o ∧ crdK L vals x3 L2 cr o ≤ amtK L vals x3 m ∧ 100 * crdK L vals x3 L2 cr o ≤ amtK L vals x3 m * cr + 50)) := Lib.hid (by
            have h1 := engK_bd HVB.out.2 m
            have h2 := amtK_bd HK9.out.pb HVB.out.2 HK9.out.b m
            have hm := HMM.out.2.2.1
            have h3 := pct_bd HK9.out o
            dsimp only at h2 h3
            have h4 : min (pctK L2 o L2.length) cr ≤ cr := by omega
            have h5 : amtK L vals x3 m * min (pctK L2 o L2.length) cr ≤ amtK L vals x3 m * cr := Int.mul_le_mul_of_nonneg_left h4 h2.1
            have h6 := mul_bd (a := amtK L vals x3 m) (b := min (pctK L2 o L2.length) cr) (A := amtK L vals x3 m) (B := 100) ⟨h2.1, Int.le_refl _⟩ h3
            unfold crdK
            rw [HVB.out.1]
            omega)
          have HE1 : Hid (billK L vals x3 L2 cr o = #[.int .i64 (engK vals m), .int .i64 (amtK L vals x3 m), .int .i64 (crdK L vals x3 L2 cr o), .int .i64 (amtK L vals x3 m - crdK L vals x3 L2 cr o)]) := Lib.hid (by unfold billK; rw [HVB.out.1])
          obtain ⟨en, hen⟩ : ∃ z, z = engK vals m := ⟨_, rfl⟩
          obtain ⟨am, ham⟩ : ∃ z, z = amtK L vals x3 m := ⟨_, rfl⟩
          obtain ⟨cd, hcd⟩ : ∃ z, z = crdK L vals x3 L2 cr o := ⟨_, rfl⟩
          have HNM := Lib.hid (And.intro hen (And.intro ham hcd))
          rw [← hen, ← ham, ← hcd] at HBL HE1
          clear hen ham hcd
          obtain ⟨du, hdu⟩ : ∃ z, z = am - cd := ⟨_, rfl⟩
          have HDU := Lib.hid hdu
          rw [← hdu] at HE1
          have q1 : IntKind.i64.wrap (cd + du) = am := by have := HBL.out; rw [IntWalk.i64_in _ (by omega)]; omega
          have q2 : decide (cd < 0) = false := decide_eq_false (by have := HBL.out; omega)
          have q2' : ¬ (cd < 0) := by have := HBL.out; omega
          have q3 : decide (du < 0) = false := decide_eq_false (by have := HBL.out; omega)
          have q3' : ¬ (du < 0) := by have := HBL.out; omega
          have hac := mul_bd (a := am) (b := cr) (A := 101000000000) (B := 100) HBL.out.2.1 HCR.out
          have q4 : IntKind.i64.wrap (100 * cd) = 100 * cd := IntWalk.i64_in _ (by have := HBL.out; omega)
          have q5 : IntKind.i64.wrap (am * cr) = am * cr := IntWalk.i64_in _ (by omega)
          have q6 : IntKind.i64.wrap (am * cr + 50) = am * cr + 50 := IntWalk.i64_in _ (by omega)
          have q7 : decide (am * cr + 50 < 100 * cd) = false := decide_eq_false (by have := HBL.out; omega)
          have q7' : ¬ (am * cr + 50 < 100 * cd) := by have := HBL.out; omega
          have KM1 := KM.out A5 m c5 vals o
          rw [HE1.out] at KM1
          have HM1 := Lib.hid (fun W h => KM1 W h (by rw [HVB.out.1]; have := HMM.out; omega) HVB.out.2 HO.out)
          clear hac hdu KM1
          go_wp2_with fail
          refine (HM1.out wA (Below.refl _ _) HVR.out).mono ?_
          rintro e w5 ⟨rfl, hB⟩
          have HB5 := Lib.hid hB
          have hbt := HBA.out.below hB HBA.out.lt
          have hbu := HUX.out.below hB HUX.out.lt
          clear t0 t1 t2 t3 s0 s1 zt zs hB
          have t0 := hbt.cell 0
          have t1 := hbt.cell 1
          have t2 := hbt.cell 2
          have t3 := hbt.cell 3
          have s0 := hbu.cell 0
          have s1 := hbu.cell 1
          simp only [List.getElem?_toArray, List.getElem?_cons_zero, List.getElem?_cons_succ] at t0 t1 t2 t3 s0 s1
          have zt := hbt.lt
          have zs := hbu.lt
          have g1 : w5.heap.size < w5.heap.size + 1 := by omega
          have g2 : w5.heap.size < w5.heap.size + 1 + 1 := by omega
          have wx6 : IntKind.i64.wrap x6 = x6 := IntWalk.i64_in _ (by have := HB.out; omega)
          have wx7 : IntKind.i64.wrap (o + x6) = o + x6 := IntWalk.i64_in _ (by have := HB.out; have := HO.out; omega)
          obtain ⟨o2, ho2⟩ : ∃ z, z = min (o + x6) 50000 := ⟨_, rfl⟩
          have wx8 : min (o + x6) 50000 = o2 := ho2.symm
          have HO2 : Hid (o ≤ o2 ∧ 0 ≤ o2 ∧ o2 ≤ 50000) := Lib.hid (by have := HB.out; have := HO.out; omega)
          clear hbt hbu ho2
          go_wp2_with fail
          obtain ⟨bb, hbb⟩ : ∃ z, z = w5.heap.size := ⟨_, rfl⟩
          obtain ⟨w6, hw6⟩ : ∃ z, z = (w5.alloc (.cells #[.int .i64 en, .int .i64 am, .int .i64 cd, .int .i64 du] 77)).alloc (.cells #[.slice A5 m c5, .int .i64 o2] 28) := ⟨_, rfl⟩
          have hb6 : Below w5.heap.size w5 w6 := by rw [hw6]; exact ((Below.refl _ _).alloc (Nat.le_refl _) _).alloc (by simp only [World.size_alloc]; omega) _
          have HB6 := Lib.hid (below3 HB5.out hb6 (Nat.le_refl _))
          have HBB : Hid (Blk w6 bb 77 #[.int .i64 en, .int .i64 am, .int .i64 cd, .int .i64 du]) := Lib.hid (by rw [hw6, hbb]; exact (show Blk (w5.alloc _) w5.heap.size 77 _ from heap_alloc_new w5 _).alloc _)
          rw [← hw6, ← hbb]
          clear hw6 hbb hb6 t0 t1 t2 t3 s0 s1 zt zs g1 g2 q1 q2 q2' q3 q3' q4 q5 q6 q7 q7' wx6 wx7 wx8
          have HCM : Hid (cd ≤ crdK L vals x3 L2 cr o2) := Lib.hid (by
            rw [HNM.out.2.2]
            exact crd_mono HK9.out.ti HO2.out.1 (by rw [HVB.out.1, ← HNM.out.2.1]; exact HBL.out.2.1.1))
          have HE2 : Hid (billK L vals x3 L2 cr o2 = #[.int .i64 en, .int .i64 am, .int .i64 (crdK L vals x3 L2 cr o2), .int .i64 (am - crdK L vals x3 L2 cr o2)]) := Lib.hid (by unfold billK; rw [HVB.out.1, HNM.out.1, HNM.out.2.1])
          obtain ⟨cd2, hcd2⟩ : ∃ z, z = crdK L vals x3 L2 cr o2 := ⟨_, rfl⟩
          rw [← hcd2] at HCM HE2
          clear hcd2
          have KM2 := KM.out A5 m c5 vals o2
          rw [HE2.out] at KM2
          have HM2 := Lib.hid (fun W h => KM2 W h (by rw [HVB.out.1]; have := HMM.out; omega) HVB.out.2 HO2.out.2)
          clear KM2
          refine (HM2.out w6 HB6.out (HVR.out.next HB6.out)).mono ?_
          rintro e w7 ⟨rfl, hB⟩
          have HB7 := Lib.hid (below3 HB6.out hB (Nat.le_refl _))
          have hbt := HBA.out.below HB7.out HBA.out.lt
          have hbu := HUX.out.below HB7.out HUX.out.lt
          have HBB7 := Lib.hid (HBB.out.below hB HBB.out.lt)
          clear hB
          have t0 := hbt.cell 0
          have t1 := hbt.cell 1
          have t2 := hbt.cell 2
          have t3 := hbt.cell 3
          have s0 := hbu.cell 0
          have s1 := hbu.cell 1
          have b0 := HBB7.out.cell 0
          have b1 := HBB7.out.cell 1
          have b2 := HBB7.out.cell 2
          have b3 := HBB7.out.cell 3
          simp only [List.getElem?_toArray, List.getElem?_cons_zero, List.getElem?_cons_succ] at t0 t1 t2 t3 s0 s1 b0 b1 b2 b3
          have zt := hbt.lt
          have zs := hbu.lt
          have zb := HBB7.out.lt
          have g1 : w7.heap.size < w7.heap.size + 1 := by omega
          obtain ⟨dv2, hdv2⟩ : ∃ z, z = am - cd2 := ⟨_, rfl⟩
          have q1 : decide (du < dv2) = false := decide_eq_false (by rw [hdv2, HDU.out]; have := HCM.out; omega)
          have q1' : ¬ (du < dv2) := by rw [hdv2, HDU.out]; have := HCM.out; omega
          rw [← hdv2]
          obtain ⟨dy, hdy⟩ : ∃ z, z = x7.tmod 5 := ⟨_, rfl⟩
          have hdyb := tmod_bd (x := x7) (n := 5) (by have := HB.out; omega) (by omega)
          rw [← hdy] at hdyb
          have v1 : x7.tmod 5 = dy := hdy.symm
          have v2 : IntKind.i64.wrap dy = dy := IntWalk.i64_in _ (by omega)
          have v3 : IntKind.i64.wrap (24 * dy) = 24 * dy := IntWalk.i64_in _ (by omega)
          obtain ⟨nd, hnd⟩ : ∃ z : Nat, z = min (24 * dy.toNat) m := ⟨_, rfl⟩
          have v4 : min (24 * dy) (m : Int) = (nd : Int) := by omega
          have HND : Hid (nd ≤ m ∧ (nd = m ∨ nd % 24 = 0)) := Lib.hid (by omega)
          clear hdv2 hdy hdyb hnd hbt hbu
          go_upto_region 28 with fail
          obtain ⟨w8, hw8⟩ : ∃ z, z = w7.alloc (.cells #[.int .i64 en, .int .i64 am, .int .i64 cd2, .int .i64 dv2] 77) := ⟨_, rfl⟩
          have hB8 : Below w7.heap.size w7 w8 := by rw [hw8]; exact (Below.refl _ _).alloc (Nat.le_refl _) _
          rw [← hw8]
          have HB8 := Lib.hid (below3 HB7.out hB8 (Nat.le_refl _))
          have HBB8 := Lib.hid (HBB7.out.below hB8 HBB7.out.lt)
          clear hw8 hB8 t0 t1 t2 t3 s0 s1 b0 b1 b2 b3 zt zs zb g1 q1 q1' v1 v2 v3 v4
          obtain ⟨A6, hA6⟩ : ∃ z, z = subA A5 c5 nd := ⟨_, rfl⟩
          have HA6 := Lib.hid hA6
          clear hA6
          obtain ⟨ua, hua⟩ : ∃ z : Ux, z = ⟨A5, nd, c5, vals.take nd, 0⟩ := ⟨_, rfl⟩
          obtain ⟨uc, huc⟩ : ∃ z : Ux, z = ⟨A6, m - nd, c5 - nd, vals.drop nd, 0⟩ := ⟨_, rfl⟩
          obtain ⟨tt, htt⟩ : ∃ z : Trf, z = ⟨L, x3, L2, cr⟩ := ⟨_, rfl⟩
          have HUA := Lib.hid (And.intro hua (And.intro huc htt))
          have HUO : Hid (UxOk ua ∧ UxOk uc) := Lib.hid (by
            rw [hua, huc]
            refine ⟨⟨?_, fun x hx => HVB.out.2 x (List.mem_of_mem_take hx), by simp⟩, ⟨?_, fun x hx => HVB.out.2 x (List.mem_of_mem_drop hx), by simp⟩⟩
            · have := HVB.out.1; have := HMM.out; simp only [List.length_take]; omega
            · have := HVB.out.1; have := HMM.out; simp only [List.length_drop]; omega)
          have HTT : Hid (TrfOk tt) := Lib.hid (by rw [htt]; exact HK9.out)
          have HSM : Hid (bEn ua + bEn uc = en ∧ (nd % 24 = 0 → bAm tt ua + bAm tt uc = am + x3)) := Lib.hid (by
            have h1 : nd ≤ vals.length := by have := HVB.out.1; have := HND.out; omega
            have h2 := engK_split (l := vals) h1
            have h3 := fun h9 => amtK_split (price := L) (base := x3) (l := vals) h1 h9
            rw [HNM.out.1, HNM.out.2.1, ← HVB.out.1]
            unfold bEn bAm
            rw [hua, huc, htt]
            exact ⟨h2, h3⟩)
          clear hua huc htt
          have hbl1 := bill_bd HTT.out HUO.out.1
          have hbl2 := bill_bd HTT.out HUO.out.2
          have HSU : Hid (sumA tt [ua, uc] = #[.int .i64 (bEn ua + bEn uc), .int .i64 (bAm tt ua + bAm tt uc), .int .i64 (bCr tt ua + bCr tt uc), .int .i64 (bDu tt ua + bDu tt uc)] ∧ [ua, uc].flatMap (encBl tt) = encBl tt ua ++ encBl tt uc) := Lib.hid ⟨by simp [sumA, sumU], by simp⟩
          obtain ⟨e1, he1⟩ : ∃ z, z = bEn ua := ⟨_, rfl⟩
          obtain ⟨a1, ha1⟩ : ∃ z, z = bAm tt ua := ⟨_, rfl⟩
          obtain ⟨k1, hk1⟩ : ∃ z, z = bCr tt ua := ⟨_, rfl⟩
          obtain ⟨d1, hd1⟩ : ∃ z, z = bDu tt ua := ⟨_, rfl⟩
          obtain ⟨e2, he2⟩ : ∃ z, z = bEn uc := ⟨_, rfl⟩
          obtain ⟨a2, ha2⟩ : ∃ z, z = bAm tt uc := ⟨_, rfl⟩
          obtain ⟨k3, hk3⟩ : ∃ z, z = bCr tt uc := ⟨_, rfl⟩
          obtain ⟨d2, hd2⟩ : ∃ z, z = bDu tt uc := ⟨_, rfl⟩
          have HEN : Hid (encBl tt ua = [.int .i64 e1, .int .i64 a1, .int .i64 k1, .int .i64 d1] ∧ encBl tt uc = [.int .i64 e2, .int .i64 a2, .int .i64 k3, .int .i64 d2]) := Lib.hid (by unfold encBl; rw [he1, ha1, hk1, hd1, he2, ha2, hk3, hd2]; exact ⟨rfl, rfl⟩)
          rw [← he1, ← ha1, ← hk1, ← hd1] at hbl1
          rw [← he2, ← ha2, ← hk3, ← hd2] at hbl2
          rw [← he1, ← ha1, ← hk1, ← hd1, ← he2, ← ha2, ← hk3, ← hd2, HEN.out.1, HEN.out.2] at HSU
          rw [← he1, ← ha1, ← he2, ← ha2] at HSM
          clear he1 ha1 hk1 hd1 he2 ha2 hk3 hd2 HEN
          have HBB2 := Lib.hid (And.intro hbl1 hbl2)
          clear hbl1 hbl2
          have HEE := Lib.hid HSM.out.1
          have e9 : e1 + e2 = en := HSM.out.1
          rw [e9] at HSU
          obtain ⟨sa, hsa⟩ : ∃ z, z = a1 + a2 := ⟨_, rfl⟩
          obtain ⟨sc, hsc⟩ : ∃ z, z = k1 + k3 := ⟨_, rfl⟩
          obtain ⟨sd, hsd⟩ : ∃ z, z = d1 + d2 := ⟨_, rfl⟩
          rw [← hsa, ← hsc, ← hsd] at HSU
          have HSE := Lib.hid (And.intro hsa (And.intro hsc hsd))
          clear hsa hsc hsd e9 HEE
          have KT := Lib.hid (fun (W : World) (lb : Nat) (h : Below w8.heap.size w8 W) (hb : Blk W lb 28 #[.slice A5 nd c5, .int .i64 0, .slice A6 (m - nd) (c5 - nd), .int .i64 0]) => Total_any L x3 L2 cr [ua, uc] (some ⟨gb, 0, none⟩) A7 (some ⟨lb, 0, none⟩) c9 k2 c7 2 2 W HK9.out (HTA.out.next (below3 HB8.out h (Nat.le_refl _))) (by simp) (fun u hu => by simp at hu; rcases hu with rfl | rfl; exact HUO.out.1; exact HUO.out.2) (by
            refine ⟨⟨rfl, fun _ => ⟨lb, 0, rfl, hb.lt, fun i x hx j u hu => ?_⟩⟩, fun u hu => ?_⟩
            · match i, hx with
              | 0, hx =>
                simp only [List.getElem?_cons_zero, Option.some.injEq] at hx
                subst hx
                rw [HUA.out.1] at hu
                match j, hu with
                | 0, hu => simp only [Ux.enc, List.getElem?_cons_zero, Option.some.injEq] at hu; subst hu; exact hb.cell 0
                | 1, hu => simp only [Ux.enc, List.getElem?_cons_zero, List.getElem?_cons_succ, Option.some.injEq] at hu; subst hu; exact hb.cell 1
                | j + 2, hu => simp [Ux.enc] at hu
              | 1, hx =>
                simp only [List.getElem?_cons_zero, List.getElem?_cons_succ, Option.some.injEq] at hx
                subst hx
                rw [HUA.out.2.1] at hu
                match j, hu with
                | 0, hu => simp only [Ux.enc, List.getElem?_cons_zero, Option.some.injEq] at hu; subst hu; exact hb.cell 2
                | 1, hu => simp only [Ux.enc, List.getElem?_cons_zero, List.getElem?_cons_succ, Option.some.injEq] at hu; subst hu; exact hb.cell 3
                | j + 2, hu => simp [Ux.enc] at hu
              | i + 2, hx => simp at hx
            · have hr := HVR.out.next (below3 HB8.out h (Nat.le_refl _))
              simp at hu
              rcases hu with rfl | rfl
              · rw [HUA.out.1]; exact rd_take hr HND.out.1
              · rw [HUA.out.2.1, HA6.out]; exact rd_drop hr HND.out.1 HA5.out.1 HA5.out.2))
          rw [← HUA.out.2.2, HSU.out.1, HSU.out.2] at KT
          have hs1 : (0 : Int) ≤ (nd : Int) := by omega
          have hs2 : (nd : Int) ≤ (c5 : Int) := by have := HND.out; have := HA5.out; omega
          have hs3 : (nd : Int) ≤ (m : Int) := by have := HND.out; omega
          have hs4 : nd ≤ m := HND.out.1
          have hs5 : nd ≤ c5 := by have := HND.out; have := HA5.out; omega
          refine wp_region_free10 20 (by kernel_rfl) [some 191, some 192, some 193, some 194, some 195, some 196, some 197, some 198, some 199, some 200, some 201, some 202, some 203, some 190, some 204, some 205, some 206, some 31, some 30, none, some 26] [[], [], [1], [], [2, 3], [4], [], [6], [], [7, 8], [9], [5, 10], [0, 11], [12], [13], [13], [13], [], [14, 12, 0, 1, 2, 3, 4, 5, 6, 7, 8, 9, 10, 11, 12, 13, 14, 17], [17, 15, 18, 0, 1, 2, 3, 4, 5, 6, 7, 8, 9, 10, 11, 12, 13, 14, 15, 17, 18], [16, 19, 0, 1, 2, 3, 4, 5, 6, 7, 8, 9, 10, 11, 12, 13, 14, 15, 16, 17, 18, 19]] [(17, .pointer (some ⟨pb, 0, none⟩)), (22, .pointer (some ⟨ub, 0, none⟩)), (29, .int .i64 (nd : Int))] (dvR w8) (dvPhi w8.heap.size ub (.agg #[.slice (some ⟨gb, 0, none⟩) 24 c9, .int .i64 x3, .slice A7 k2 c7, .int .i64 cr]) (.agg #[.slice A5 nd c5, .int .i64 0]) (.agg #[.slice A6 (m - nd) (c5 - nd), .int .i64 0]) (.agg #[.int .i64 en, .int .i64 sa, .int .i64 sc, .int .i64 sd]) #[.slice A5 nd c5, .int .i64 0, .slice A6 (m - nd) (c5 - nd), .int .i64 0] #[.int .i64 en, .int .i64 sa, .int .i64 sc, .int .i64 sd] ([.int .i64 e1, .int .i64 a1, .int .i64 k1, .int .i64 d1] ++ [.int .i64 e2, .int .i64 a2, .int .i64 k3, .int .i64 d2]) (nd : Int) (.slice A5 m c5) (.slice A5 nd c5) (.slice A6 (m - nd) (c5 - nd))) (dvPsi) (by kernel_rfl) (by kernel_rfl) rfl (by kernel_rfl) ?_ ?_ ⟨fun _ => 0, ⟨(Below.refl _ _).drew, Nat.zero_le _, fun h => absurd rfl h⟩, fun i _ => ⟨fun _ => rfl, fun _ => rfl⟩⟩ ?_ ?_
          · intro z hz
            simp only [List.mem_cons, List.mem_nil_iff, or_false] at hz
            rcases hz with rfl | rfl | rfl
            all_goals exact ⟨by kernel_rfl, rfl⟩
          · intro i v W γ hi h
            rcases i with _ | _ | _ | _ | _ | _ | _ | _ | _ | _ | _ | _ | _ | _ | _ | _ | _ | _ | _ | _ | _ | i
            all_goals first | exact h | (simp at hi)
          · refine ⟨?_, ?_, ?_, ?_, ?_, ?_, ?_, ?_, ?_, ?_, ?_, ?_, ?_, ?_, ?_, ?_, ?_, ?_, ?_, ?_, ?_, trivial⟩
            all_goals
              intro a9 W γ ev hcc hff hfx hR hψ hpre
              simp only [List.mem_cons, List.mem_nil_iff, or_false, forall_eq, forall_eq_or_imp] at hfx
              obtain ⟨f0, f1, f2⟩ := hfx
              have HR := Lib.hid hR
              clear hR
              refine ⟨fun _ K hK => ?_, trivial⟩

            · have hbk := HBA.out.below (below3 HB8.out HR.out.1 (Nat.le_refl _)) HBA.out.lt
              have t0 := hbk.cell 0
              have t1 := hbk.cell 1
              have t2 := hbk.cell 2
              have t3 := hbk.cell 3
              simp only [List.getElem?_toArray, List.getElem?_cons_zero, List.getElem?_cons_succ] at t0 t1 t2 t3
              have zt := hbk.lt
              clear hbk
              clear hpre hψ
              go_simp
              exact hK _ _ γ HR.out (fun _ _ _ _ h => h) (fun _ _ _ h => h) rfl
            · clear hpre hψ
              go_simp
              exact hK _ _ γ HR.out (fun _ _ _ _ h => h) (fun _ _ _ h => h) rfl
            · have q0 : ev (.tmp 192) = _ := hpre 1 (by decide)
              have hbk := HUX.out.below (below3 HB8.out HR.out.1 (Nat.le_refl _)) HUX.out.lt
              have s0 := hbk.cell 0
              have s1 := hbk.cell 1
              simp only [List.getElem?_toArray, List.getElem?_cons_zero, List.getElem?_cons_succ] at s0 s1
              have zs := hbk.lt
              clear hbk
              clear hpre hψ
              go_simp
              exact hK _ _ γ HR.out (fun _ _ _ _ h => h) (fun _ _ _ h => h) rfl
            · clear hpre hψ
              go_simp
              exact hK _ _ γ HR.out (fun _ _ _ _ h => h) (fun _ _ _ h => h) rfl
            · have q0 : ev (.tmp 193) = _ := hpre 2 (by decide)
              have q1 : ev (.tmp 194) = _ := hpre 3 (by decide)
              clear hpre hψ
              go_simp
              exact hK _ _ γ HR.out (fun _ _ _ _ h => h) (fun _ _ _ h => h) rfl
            · have q0 : ev (.tmp 195) = _ := hpre 4 (by decide)
              clear hpre hψ
              go_simp
              exact hK _ _ γ HR.out (fun _ _ _ _ h => h) (fun _ _ _ h => h) rfl
            · clear hpre hψ
              go_simp
              exact hK _ _ γ HR.out (fun _ _ _ _ h => h) (fun _ _ _ h => h) rfl
            · have q0 : ev (.tmp 197) = _ := hpre 6 (by decide)
              have hbk := HUX.out.below (below3 HB8.out HR.out.1 (Nat.le_refl _)) HUX.out.lt
              have s0 := hbk.cell 0
              have s1 := hbk.cell 1
              simp only [List.getElem?_toArray, List.getElem?_cons_zero, List.getElem?_cons_succ] at s0 s1
              have zs := hbk.lt
              clear hbk
              clear hpre hψ
              go_simp
              exact hK _ _ γ HR.out (fun _ _ _ _ h => h) (fun _ _ _ h => h) rfl
            · clear hpre hψ
              go_simp
              exact hK _ _ γ HR.out (fun _ _ _ _ h => h) (fun _ _ _ h => h) rfl
            · have q0 : ev (.tmp 198) = _ := hpre 7 (by decide)
              have q1 : ev (.tmp 199) = _ := hpre 8 (by decide)
              clear hpre hψ
              go_simp
              exact hK _ _ γ HR.out (fun _ _ _ _ h => h) (fun _ _ _ h => h) (by show _ = Value.slice A6 (m - nd) (c5 - nd); rw [HA6.out]; unfold subA; first | rfl | simp | (trace_state; sorry))
            · have q0 : ev (.tmp 200) = _ := hpre 9 (by decide)
              clear hpre hψ
              go_simp
              exact hK _ _ γ HR.out (fun _ _ _ _ h => h) (fun _ _ _ h => h) rfl
            · have q0 : ev (.tmp 196) = _ := hpre 5 (by decide)
              have q1 : ev (.tmp 201) = _ := hpre 10 (by decide)
              clear hpre hψ
              go_simp
              have hB5 : Below W.heap.size W (W.alloc (.cells #[.slice A5 nd c5, .int .i64 0, .slice A6 (m - nd) (c5 - nd), .int .i64 0] 28)) := (Below.refl _ _).alloc (Nat.le_refl _) _
              exact hK _ _ γ ⟨below3 HR.out.1 hB5 (Nat.le_refl _), Nat.le_trans HR.out.2.1 hB5.size, HR.out.2.2⟩ (fun j u _ _ h => dvPhi_next hB5 h) (fun _ _ _ h => h) ⟨W.heap.size, rfl, heap_alloc_new W _⟩
            · have q0 : ev (.tmp 191) = _ := hpre 0 (by decide)
              obtain ⟨lb, q7, hlb⟩ := hpre 11 (by decide)
              replace q7 : ev (.tmp 202) = _ := q7
              have C := Lib.hid (KT.out W lb HR.out.1 hlb)
              have HRW := HR
              clear hpre hψ hlb HR
              go_simp
              refine C.out.mono ?_
              rintro e w9 ⟨A, ca, rfl, hrow, hB⟩
              refine hK _ w9 γ ⟨below3 HRW.out.1 hB (Nat.le_refl _), Nat.le_trans HRW.out.2.1 hB.size, HRW.out.2.2⟩ (fun j u _ _ h => dvPhi_next hB h) (fun _ _ _ h => h) ⟨.slice A 2 ca, rfl, A, ca, rfl, row_low hrow HRW.out.1.size, fun q hq e => ?_⟩
              have h1 := (World.ownsRow.lt hrow q e).1
              have h2 := HRW.out.2.1
              omega
            · obtain ⟨x, q7, hx⟩ := hpre 12 (by decide)
              replace q7 : ev (.tmp 203) = _ := q7
              have HX := Lib.hid hx
              clear hpre hψ hx
              go_simp
              exact hK _ _ γ HR.out (fun _ _ _ _ h => h) (fun _ _ _ h => h) ⟨x, rfl, HX.out⟩
            · obtain ⟨x, q7, hx⟩ := hpre 13 (by decide)
              replace q7 : ev (.tmp 190) = _ := q7
              have HX := Lib.hid hx
              clear hpre hψ hx
              go_simp
              exact hK _ _ γ HR.out (fun _ _ _ _ h => h) (fun _ _ _ h => h) HX.out
            · obtain ⟨x, q7, hx⟩ := hpre 13 (by decide)
              replace q7 : ev (.tmp 190) = _ := q7
              have HX := Lib.hid hx
              clear hpre hψ hx
              go_simp
              exact hK _ _ γ HR.out (fun _ _ _ _ h => h) (fun _ _ _ h => h) rfl
            · obtain ⟨x, q7, hx⟩ := hpre 13 (by decide)
              replace q7 : ev (.tmp 190) = _ := q7
              have HX := Lib.hid hx
              clear hpre hψ hx
              go_simp
              exact hK _ _ γ HR.out (fun _ _ _ _ h => h) (fun _ _ _ h => h) rfl
            · clear hpre hψ
              go_simp
              have hB5 : Below W.heap.size W (W.alloc (.cells #[.int .i64 0, .int .i64 0, .int .i64 0, .int .i64 0] 77)) := (Below.refl _ _).alloc (Nat.le_refl _) _
              exact hK _ _ (fun i => if i = 1 then W.heap.size + 1 else γ i) ⟨below3 HR.out.1 hB5 (Nat.le_refl _), by simp [World.size_alloc], fun _ => by have := HR.out.1.size; simp; omega⟩ (fun j u hj hne h => dvPhi_new hB5 rfl hne (fun e => by subst e; exact absurd (by decide) hj) h) (fun _ j h1 h2 => ⟨fun e => by have := h2.1 e; simpa using this, fun e => absurd e h1⟩) ⟨W.heap.size, rfl, rfl, fun _ => heap_alloc_new W _⟩
            · have hx := hpre 14 (by decide)
              obtain ⟨A, ca, q7, h1, h2⟩ := hx
              replace q7 : ev (.tmp 204) = _ := q7
              have HX := Lib.hid (And.intro h1 h2)
              clear hpre hψ h1 h2
              go_simp
              exact hK _ _ γ HR.out (fun _ _ _ _ h => h) (fun _ _ _ h => h) ⟨A, ca, rfl, HX.out.1, HX.out.2⟩
            · have q0 : ev (.tmp 205) = _ := hpre 15 (by decide)
              obtain ⟨zb, q7, hg1, hbz⟩ := hpre 17 (by decide)
              replace q7 : ev (.tmp 31) = _ := q7
              have hbz := hbz (hψ.1 rfl)
              have zl := hbz.lt
              have fl9 := hbz.frozen
              have e0 := hbz.cell 0
              have e1 := hbz.cell 1
              have e2 := hbz.cell 2
              have e3 := hbz.cell 3
              simp only [List.getElem?_toArray, List.getElem?_cons_zero, List.getElem?_cons_succ] at e0 e1 e2 e3
              have HX := Lib.hid (And.intro hbz (And.intro hg1 (And.intro HR.out.1 (And.intro HR.out.2.1 HR.out.2.2))))
              clear hpre hψ hbz hg1
              go_simp
              have hbz := HX.out.1
              have hg1 := HX.out.2.1
              have hz7 : w8.heap.size ≤ zb := by have := HX.out.2.2.2.2 (by omega); omega
              have hgr := only_setCell (only_setCell (only_setCell (grown_set W zb 0 (.int .i64 en)) (p := ⟨zb, 1, none⟩) rfl (.int .i64 sa)) (p := ⟨zb, 2, none⟩) rfl (.int .i64 sc)) (p := ⟨zb, 3, none⟩) rfl (.int .i64 sd)
              refine hK undef _ (fun i => if i = 0 then 1 else γ i) ⟨(((HX.out.2.2.1.setCell (p := ⟨zb, 0, none⟩) hz7 _).setCell (p := ⟨zb, 1, none⟩) hz7 _).setCell (p := ⟨zb, 2, none⟩) hz7 _).setCell (p := ⟨zb, 3, none⟩) hz7 _, Nat.le_trans HX.out.2.2.2.1 hgr.size, HX.out.2.2.2.2⟩ (fun j u _ hne h => dvPhi_store hbz hgr hg1 hg1 (by simp) hne h) (fun _ j hj h => ⟨fun e => absurd e hj, h.2⟩) ⟨zb, hg1, ?_⟩
              have h := (((hbz.set_ 0 (.int .i64 en)).set_ 1 (.int .i64 sa)).set_ 2 (.int .i64 sc)).set_ 3 (.int .i64 sd)
              simpa using h
            · have q0 : ev (.tmp 206) = _ := hpre 16 (by decide)
              clear hpre hψ
              go_simp
              exact hK _ _ γ HR.out (fun _ _ _ _ h => h) (fun _ _ _ h => h) rfl
          · intro vs wy γ hvl hR hφ
            have q17 := hφ 17 (by decide)
            have q18 := hφ 18 (by decide)
            have q19 := hφ 19 (by decide)
            have q20 := hφ 20 (by decide)
            have HR := Lib.hid hR
            clear hφ hR
            match vs, hvl with
            | [y0, y1, y2, y3, y4, y5, y6, y7, y8, y9, y10, y11, y12, y13, y14, y15, y16, y17, y18, y19, y20], _ =>
            simp only [List.getD_cons_zero, List.getD_cons_succ] at q17 q18 q19 q20
            obtain ⟨zb, q17, hg1, _⟩ := q17
            obtain ⟨A, ca, q18, hrow, _⟩ := q18
            obtain ⟨zb2, hg2, hzb⟩ := q19
            obtain rfl : zb2 = zb := by omega
            obtain rfl : y17 = _ := q17
            obtain rfl : y18 = _ := q18
            obtain rfl : y20 = _ := q20
            have HB9 := Lib.hid (below3 HB8.out HR.out.1 (Nat.le_refl _))
            have HLY := Lib.hid (below3 HLA.out HB9.out (Nat.le_refl _))
            have hbt := HBA.out.below HB9.out HBA.out.lt
            have hbb := HBB8.out.below HR.out.1 HBB8.out.lt
            have t1 := hbt.cell 1
            have b0 := hbb.cell 0
            have b1 := hbb.cell 1
            have z0 := hzb.cell 0
            have z1 := hzb.cell 1
            have z2 := hzb.cell 2
            have z3 := hzb.cell 3
            simp only [List.getElem?_toArray, List.getElem?_cons_zero, List.getElem?_cons_succ] at t1 b0 b1 z0 z1 z2 z3
            have zt := hbt.lt
            have zbb := hbb.lt
            have zz := hzb.lt
            obtain ⟨g9, rfl, zg, hcl⟩ := row2 hrow
            have r1 := hcl 1 _ rfl
            have r2 := hcl 2 _ rfl
            have r3 := hcl 3 _ rfl
            have r5 := hcl 5 _ rfl
            have r6 := hcl 6 _ rfl
            have r7 := hcl 7 _ rfl
            have x1 : IntKind.i64.wrap (a1 + a2) = sa := by have h1 := HBB2.out; have h2 := HSE.out; rw [IntWalk.i64_in _ (by omega)]; omega
            have x2 : IntKind.i64.wrap (k1 + k3) = sc := by have h1 := HBB2.out; have h2 := HSE.out; rw [IntWalk.i64_in _ (by omega)]; omega
            have x3' : IntKind.i64.wrap (d1 + d2) = sd := by have h1 := HBB2.out; have h2 := HSE.out; rw [IntWalk.i64_in _ (by omega)]; omega
            clear hbt hbb hzb hrow hcl hg1 hg2 HR
            simp [putAll]
            go_wp2
            go_quiet (fail)
            by_cases h24 : nd % 24 = 0
            · have y1 : (nd : Int).tmod 24 = 0 := by rw [Int.tmod_eq_emod_of_nonneg (by omega)]; omega
              have y2 : IntKind.i64.wrap (am + x3) = sa := by have h1 := HSM.out.2 h24; have h2 := HSE.out; have h3 := HBB2.out; rw [IntWalk.i64_in _ (by omega)]; omega
              clear h24 hs1 hs2 hs3 hs4 hs5
              go_wp2_with fail
              refine (awake_yes _).mono ?_
              rintro e w10 ⟨rfl, hB⟩
              have HF := Lib.hid (below3 (below_drewN HLY.out _) hB (Nat.le_refl _))
              clear hB
              go_wp2
              go_ret
              exact ⟨rfl, HF.out⟩
            · obtain ⟨r, hr⟩ : ∃ z, z = (nd : Int).tmod 24 := ⟨_, rfl⟩
              have y1 : (nd : Int).tmod 24 = r := hr.symm
              have y3 : ¬ (r = 0) := by rw [hr, Int.tmod_eq_emod_of_nonneg (by omega)]; omega
              clear h24 hr hs1 hs2 hs3 hs4 hs5
              go_wp2_with fail
              refine (awake_yes _).mono ?_
              rintro e w10 ⟨rfl, hB⟩
              have HF := Lib.hid (below3 (below_drewN HLY.out _) hB (Nat.le_refl _))
              clear hB
              go_wp2
              go_ret
              exact ⟨rfl, HF.out⟩
end Go.Proofs.Ytcecbohaajocfaa
