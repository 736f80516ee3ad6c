/- law07: a case made of numbers. -/
import Derived.Test.YtldbciflpnhfpaaHtO

set_option linter.unusedSimpArgs false
set_option linter.unusedVariables false
namespace Go.Proofs.Ytldbciflpnhfpaa
open Go.RowKit

/-- A case under way. -/
structure CdI (X : World) (dx pb rb : Nat) (dv : Value) (out pump : Int) (v : Value) (k : Nat) (L : List Int) (W : World) : Prop where
  low : Below X.heap.size X W
  res : Blk W rb 35 #[.slice none 0 0, .int .i64 0, .int .i64 0]
  dig : ∃ i, i ≤ k + 2 ∧ Blk W dx 81 #[dv, .int .i64 ((i : Nat) : Int)]
  box : Blk W pb 35 #[v, .int .i64 out, .int .i64 pump]
  row : W.ownsRow X.heap.size 3 1 v k (L.flatMap encI)
  len : L.length = k
  bd : ∀ y ∈ L, 0 ≤ y ∧ y ≤ 255000
def cdR (X : World) (dx pb rb : Nat) (dv : Value) (out pump : Int) (v : Value) (k : Nat) (L : List Int) (W : World) (γ : Nat → Nat) : Prop :=
  (Below X.heap.size X W ∧ Blk W rb 35 #[.slice none 0 0, .int .i64 0, .int .i64 0] ∧ ∃ i, i ≤ k + 2 + γ 2 ∧ Blk W dx 81 #[dv, .int .i64 ((i : Nat) : Int)]) ∧ (γ 0 = 0 → Blk W pb 35 #[v, .int .i64 out, .int .i64 pump]) ∧ (γ 1 = 0 → W.ownsRow X.heap.size 3 1 v k (L.flatMap encI))
def cdPhi (X : World) (dx pb : Nat) (out pump : Int) (vv : Value) (k : Nat) (L : List Int) : Nat → Value → World → (Nat → Nat) → Prop
  | 0, v, _, _ => v = .pointer (some ⟨pb, 0, none⟩)
  | 1, v, _, _ => v = vv
  | 2, v, _, _ => v = .pointer (some ⟨dx, 0, none⟩)
  | 3, v, _, γ => ∃ r : Int, v = .int .i64 r ∧ (0 ≤ r ∧ r < 256) ∧ γ 2 = 1
  | 4, v, _, _ => ∃ r : Int, v = .int .i64 r ∧ (0 ≤ r ∧ r ≤ 255000)
  | 5, v, W, γ => ∃ (b1 : Nat) (r : Int), v = .slice (some ⟨b1, 0, none⟩) 1 1 ∧ (0 ≤ r ∧ r ≤ 255000) ∧ (γ 1 = 0 → Blk W b1 3 #[.int .i64 r])
  | 6, v, W, _ => ∃ (A : Option Addr) (c : Nat) (r : Int), v = .slice A (k + 1) c ∧ (0 ≤ r ∧ r ≤ 255000) ∧ W.ownsRow X.heap.size 3 1 (.slice A (k + 1) c) (k + 1) ((L ++ [r]).flatMap encI)
  | 7, v, _, _ => v = .pointer (some ⟨pb, 0, none⟩)
  | 8, _, W, _ => ∃ (A : Option Addr) (c : Nat) (r : Int), (0 ≤ r ∧ r ≤ 255000) ∧ Blk W pb 35 #[.slice A (k + 1) c, .int .i64 out, .int .i64 pump] ∧ W.ownsRow X.heap.size 3 1 (.slice A (k + 1) c) (k + 1) ((L ++ [r]).flatMap encI)
  | _, _, _, _ => True
def cdPsi (i : Nat) (_ : World) (γ : Nat → Nat) : Prop := γ 0 = 0 ∧ (i = 6 → γ 1 = 0) ∧ (i = 3 → γ 2 = 0)
section
variable {X : World} {dx pb : Nat} {out pump : Int} {vv : Value} {k : Nat} {L : List Int} {j : Nat} {v : Value} {W W' : World} {γ γ' : Nat → Nat}
theorem cdPhi_next (hb : Below W.heap.size W W') (h : cdPhi X dx pb out pump vv k L j v W γ) : cdPhi X dx pb out pump vv k L j v W' γ := by
  unfold cdPhi at h ⊢
  split at h
  all_goals first | exact h | trivial | skip
  · obtain ⟨b1, r, e, h1, hr⟩ := h; exact ⟨b1, r, e, h1, fun g => (hr g).below hb (hr g).lt⟩
  · obtain ⟨A, c, r, e, h1, hr⟩ := h; exact ⟨A, c, r, e, h1, row_next hr hb⟩
  · obtain ⟨A, c, r, h1, hb2, hr⟩ := h; exact ⟨A, c, r, h1, hb2.below hb hb2.lt, row_next hr hb⟩
theorem cdPhi_turn (hd : ∀ b cs, Blk W b 3 cs → Blk W' b 3 cs) (h1 : γ' 1 = γ 1) (h3 : j ≠ 3) (h6 : j ≠ 6) (h8 : j ≠ 8) (h : cdPhi X dx pb out pump vv k L j v W γ) : cdPhi X dx pb out pump vv k L j v W' γ' := by
  unfold cdPhi at h ⊢
  split at h
  all_goals first | exact h | trivial | exact absurd rfl h3 | exact absurd rfl h6 | exact absurd rfl h8 | skip
  · obtain ⟨b1, r, e, h2, hr⟩ := h; exact ⟨b1, r, e, h2, fun g => hd _ _ (hr (by rw [← h1]; exact g))⟩
theorem cdPhi_grown (h6 : j ≠ 6) (h8 : j ≠ 8) (hγ : γ' 1 ≠ 0) (h2 : γ' 2 = γ 2) (h : cdPhi X dx pb out pump vv k L j v W γ) : cdPhi X dx pb out pump vv k L j v W' γ' := by
  unfold cdPhi at h ⊢
  split at h
  all_goals first | exact h | trivial | exact absurd rfl h6 | exact absurd rfl h8 | skip
  · obtain ⟨r, e, h1, hr⟩ := h; exact ⟨r, e, h1, by rw [h2]; exact hr⟩
  · obtain ⟨b1, r, e, h1, hr⟩ := h; exact ⟨b1, r, e, h1, fun g => absurd g hγ⟩
theorem cdPhi_store {u0 : Value} {cs : Array Value} (hbx : Blk W pb 35 cs) (hγ : γ' 1 ≠ 0) (h2 : γ' 2 = γ 2) (h8 : j ≠ 8) (h : cdPhi X dx pb out pump vv k L j v W γ) : cdPhi X dx pb out pump vv k L j v (W.setCell ⟨pb, 0, none⟩ u0) γ' := by
  unfold cdPhi at h ⊢
  split at h
  all_goals first | exact h | trivial | exact absurd rfl h8 | skip
  · obtain ⟨r, e, h1, hr⟩ := h; exact ⟨r, e, h1, by rw [h2]; exact hr⟩
  · obtain ⟨b1, r, e, h1, hr⟩ := h; exact ⟨b1, r, e, h1, fun g => absurd g hγ⟩
  · obtain ⟨A, c, r, e, h1, hr⟩ := h; exact ⟨A, c, r, e, h1, hr.kept (grown_set W pb 0 _) (Or.inr (own_ne hr hbx (by decide)).symm)⟩
end
set_option maxRecDepth 100000 in
set_option maxHeartbeats 4000000 in
theorem Cased_any (rA wA bA cA : Option Addr) (rn rc wn wc bn bc cn cc : Nat) (A2 : Option Addr) (n2 c2 : Nat) (l2 : List Int) (w : World) (hn : rn ≤ 8) (h2 : Rd w w.heap.size 1 encU A2 n2 l2) (u2 : U8s l2) :
    Calls Try.prog 12 #[.agg #[.slice rA rn rc, .slice wA wn wc, .slice bA bn bc, .slice cA cn cc], .slice A2 n2 c2] w fun e w' => ∃ (A : Option Addr) (c : Nat) (out pump : Int) (L : List Int), e = .returned (.agg #[.slice A rn c, .int .i64 out, .int .i64 pump]) ∧ w'.ownsRow w.heap.size 3 1 (.slice A rn c) rn (L.flatMap encI) ∧ L.length = rn ∧ (∀ y ∈ L, 0 ≤ y ∧ y ≤ 255000) ∧ ((10000 ≤ out ∧ out ≤ 35500) ∧ 0 ≤ pump ∧ pump ≤ 2550) ∧ Below w.heap.size w w' := by
  have H2 := Lib.hid h2
  have U2 := Lib.hid u2
  obtain ⟨i0, hi0, hi1, hi2, hi3⟩ := info_parts intInfo
  have hi := Lib.hid (And.intro hi0 (And.intro hi1 (And.intro hi2 hi3)))
  have g1 : w.heap.size < w.heap.size + 1 := by omega
  have g2 : w.heap.size < w.heap.size + 1 + 1 := by omega
  have g3 : w.heap.size < w.heap.size + 1 + 1 + 1 := by omega
  clear h2 u2 hi0 hi1 hi2 hi3
  go_enter Try.func12, Try.ntmps12
  go_wp2_with fail
  obtain ⟨bx, hbx⟩ : ∃ z, z = w.heap.size := ⟨_, rfl⟩
  obtain ⟨w1, hw1⟩ : ∃ z, z = w.alloc (.cells #[.slice rA rn rc, .slice wA wn wc, .slice bA bn bc, .slice cA cn cc] 28) := ⟨_, rfl⟩
  have BX : Hid (Blk w1 bx 28 #[.slice rA rn rc, .slice wA wn wc, .slice bA bn bc, .slice cA cn cc]) := Lib.hid (by rw [hw1, hbx]; exact heap_alloc_new w _)
  have Sw1 : Hid (w1.heap.size = bx + 1) := Lib.hid (by rw [hw1, hbx, World.size_alloc])
  have Zbx : Hid (w.heap.size ≤ bx) := Lib.hid (by rw [hbx]; exact Nat.le_refl _)
  have hBn : Below w.heap.size w w1 := by rw [hw1]; exact (Below.refl _ _).alloc (Nat.le_refl _) _
  rw [← hw1, ← hbx]
  have B0 : Hid (Below w.heap.size w w1) := Lib.hid hBn
  clear hw1 hbx hBn
  obtain ⟨rb, hrb⟩ : ∃ z, z = bx + 1 := ⟨_, rfl⟩
  obtain ⟨w2, hw2⟩ : ∃ z, z = w1.alloc (.cells #[.slice none 0 0, .int .i64 0, .int .i64 0] 35) := ⟨_, rfl⟩
  have RB : Hid (Blk w2 rb 35 #[.slice none 0 0, .int .i64 0, .int .i64 0]) := Lib.hid (by have e2 := heap_alloc_new w1 (.cells #[.slice none 0 0, .int .i64 0, .int .i64 0] 35); rw [Sw1.out] at e2; rw [hw2, hrb]; exact e2)
  have Sw2 : Hid (w2.heap.size = rb + 1) := Lib.hid (by rw [hw2, hrb, World.size_alloc, Sw1.out])
  have Zrb : Hid (w1.heap.size = rb) := Lib.hid (by rw [Sw1.out, hrb])
  have hBn : Below w1.heap.size w1 w2 := by rw [hw2]; exact (Below.refl _ _).alloc (Nat.le_refl _) _
  rw [← hw2, ← hrb]
  have B1 : Hid (Below w1.heap.size w1 w2) := Lib.hid hBn
  clear hw2 hrb hBn
  obtain ⟨dx, hdx⟩ : ∃ z, z = rb + 1 := ⟨_, rfl⟩
  obtain ⟨w3, hw3⟩ : ∃ z, z = w2.alloc (.cells #[.slice A2 n2 c2, .int .i64 0] 81) := ⟨_, rfl⟩
  have DX : Hid (Blk w3 dx 81 #[.slice A2 n2 c2, .int .i64 0]) := Lib.hid (by have e2 := heap_alloc_new w2 (.cells #[.slice A2 n2 c2, .int .i64 0] 81); rw [Sw2.out] at e2; rw [hw3, hdx]; exact e2)
  have Sw3 : Hid (w3.heap.size = dx + 1) := Lib.hid (by rw [hw3, hdx, World.size_alloc, Sw2.out])
  have Zdx : Hid (w2.heap.size = dx) := Lib.hid (by rw [Sw2.out, hdx])
  have hBn : Below w2.heap.size w2 w3 := by rw [hw3]; exact (Below.refl _ _).alloc (Nat.le_refl _) _
  rw [← hw3, ← hdx]
  have B2 : Hid (Below w2.heap.size w2 w3) := Lib.hid hBn
  clear hw3 hdx hBn
  have HDB : Hid (w2.heap.size ≤ dx) := Lib.hid (Nat.le_of_eq Zdx.out)
  have HLOW : Hid (Below w2.heap.size w2 w3) := B2
  have KN := Lib.hid (fun (W : World) (i : Nat) (hd : Blk W dx 81 #[.slice A2 n2 c2, .int .i64 (i : Int)]) (hW : Below w2.heap.size w2 W) (hi : i ≤ 1000000) => next_int dx n2 c2 w.heap.size i 256 A2 l2 W hd (H2.out.below (below3 (below3 B0.out B1.out (Nat.le_refl _)) hW (Nat.le_refl _))) (Nat.le_trans ((below3 B0.out B1.out (Nat.le_refl _))).size HDB.out) U2.out hi (by omega))
  have C := Lib.hid (KN.out w3 0 DX.out HLOW.out (by omega))
  clear g1 g2 g3
  refine C.out.mono ?_
  rintro e w4 ⟨o9, rfl, ho9, hk4, hd4⟩
  have HX4 : Hid (Below w2.heap.size w2 w4) := Lib.hid (HLOW.out.trans (hk4.below HLOW.out.size (fun b e => by rw [e]; exact HDB.out)))
  have wm : IntKind.i64.wrap (100 * o9) = 100 * o9 := IntWalk.i64_in _ (by omega)
  obtain ⟨out, hout⟩ : ∃ z, z = 10000 + 100 * o9 := ⟨_, rfl⟩
  have wa : IntKind.i64.wrap (10000 + 100 * o9) = out := by rw [hout]; exact IntWalk.i64_in _ (by omega)
  have HOUT : Hid (10000 ≤ out ∧ out ≤ 35500) := Lib.hid (by omega)
  have C2 := Lib.hid (KN.out w4 1 hd4 HX4.out (by omega))
  clear C hk4 hd4 ho9 hout
  go_wp2_with fail
  refine C2.out.mono ?_
  rintro e w5 ⟨p9, rfl, hp9, hk5, hd5⟩
  have HX5 : Hid (Below w2.heap.size w2 w5) := Lib.hid (HX4.out.trans (hk5.below HX4.out.size (fun b e => by rw [e]; exact HDB.out)))
  have HD5 := Lib.hid hd5
  obtain ⟨pump, hpump⟩ : ∃ z, z = 10 * p9 := ⟨_, rfl⟩
  have wp : IntKind.i64.wrap (10 * p9) = pump := by rw [hpump]; exact IntWalk.i64_in _ (by omega)
  have HPUMP : Hid (0 ≤ pump ∧ pump ≤ 2550) := Lib.hid (by omega)
  have hbk := (BX.out.below (below3 B1.out HX5.out (Nat.le_refl _)) BX.out.lt)
  have d0 := hbk.cell 0
  have zd := hbk.lt
  simp only [List.getElem?_toArray, List.getElem?_cons_zero, List.getElem?_cons_succ] at d0
  have g1 : w5.heap.size < w5.heap.size + 1 := by omega
  clear C2 hk5 hd5 hp9 hpump hbk
  go_wp2_with fail
  obtain ⟨pb, hpb⟩ : ∃ z, z = w5.heap.size := ⟨_, rfl⟩
  obtain ⟨w6, hw6⟩ : ∃ z, z = w5.alloc (.cells #[.slice none 0 0, .int .i64 out, .int .i64 pump] 35) := ⟨_, rfl⟩
  have hBa : Below w5.heap.size w5 w6 := by rw [hw6]; exact (Below.refl _ _).alloc (Nat.le_refl _) _
  have HPB : Hid (Blk w6 pb 35 #[.slice none 0 0, .int .i64 out, .int .i64 pump]) := Lib.hid (by rw [hw6, hpb]; exact heap_alloc_new w5 _)
  have HC0 : Hid (CdI w2 dx pb rb (.slice A2 n2 c2) out pump (.slice none 0 0) 0 [] w6) := Lib.hid ⟨below3 HX5.out hBa (Nat.le_refl _), (RB.out.below HX5.out RB.out.lt).below hBa (Nat.lt_of_lt_of_le RB.out.lt HX5.out.size), ⟨2, by omega, HD5.out.below hBa HD5.out.lt⟩, HPB.out, World.ownsRow_nil _ _ _ _, rfl, fun y h => (by simp at h)⟩
  have HPX : Hid (w2.heap.size ≤ pb ∧ rb ≠ pb ∧ dx ≠ pb) := Lib.hid (by have h1 := HX5.out.size; have h2 := RB.out.lt; have h3 := HD5.out.lt; omega)
  rw [← hw6, ← hpb]
  clear hw6 hpb hBa d0 zd g1 wm wa wp
  go_loopw [21] (fun i wr => ∃ (k : Nat) (L : List Int) (vv : Value), k ≤ rn ∧ i = .int .i64 ((k : Nat) : Int) ∧ Hid (CdI w2 dx pb rb (.slice A2 n2 c2) out pump vv k L wr)) (fun i _ => rn - (intOf i).toNat)
  case atStart => exact ⟨0, [], _, by omega, rfl, HC0⟩
  case round =>
    obtain ⟨k, L, vv, hk, rfl, HCD⟩ := hrel
    by_cases hlt : k < rn
    · have HK4 : Hid (k ≤ 400) := Lib.hid (by omega)
      have hk1 : ((k : Nat) : Int) < ((rn : Nat) : Int) := by omega
      go_wp2
      refine wp_region_free10 8 (by kernel_rfl) [some 23, some 24, some 25, some 26, some 27, some 28, some 29, some 30, none] [[], [0], [], [2], [3], [4], [1, 5, 3], [0, 1, 2, 3, 4, 5, 6], [7, 6, 6, 0, 1, 2, 3, 4, 5, 6]] [(6, .pointer (some ⟨pb, 0, none⟩)), (5, .pointer (some ⟨dx, 0, none⟩))] (cdR w2 dx pb rb (.slice A2 n2 c2) out pump vv k L) (cdPhi w2 dx pb out pump vv k L) (cdPsi) (by kernel_rfl) (by kernel_rfl) rfl (by kernel_rfl) ?_ ?_ ⟨fun _ => 0, ⟨⟨HCD.out.low.drew, HCD.out.res.below (Below.refl _ _).drew HCD.out.res.lt, by obtain ⟨i, hi, hd⟩ := HCD.out.dig; exact ⟨i, Nat.le_trans hi (Nat.le_add_right _ _), hd.below (Below.refl _ _).drew hd.lt⟩⟩, fun _ => HCD.out.box.below (Below.refl _ _).drew HCD.out.box.lt, fun _ => row_next HCD.out.row (Below.refl _ _).drew⟩, fun i _ => ⟨rfl, fun _ => rfl, fun _ => rfl⟩⟩ ?_ ?_
      · intro z hz
        simp only [List.mem_cons, List.mem_nil_iff, or_false] at hz
        rcases hz with rfl | rfl
        all_goals exact ⟨by kernel_rfl, rfl⟩
      · intro i v W γ hi h
        rcases i with _ | _ | _ | _ | _ | _ | _ | _ | _ | i
        all_goals first | exact h | (simp at hi)
      · refine ⟨?_, ?_, ?_, ?_, ?_, ?_, ?_, ?_, ?_, trivial⟩
        all_goals
          intro a9 W γ ev hcc hff hfx hR hψ hpre
          simp only [List.mem_cons, List.mem_nil_iff, or_false, forall_eq, forall_eq_or_imp] at hfx
          obtain ⟨f0, f1⟩ := hfx
          have HR := Lib.hid hR
          clear hR
          refine ⟨fun _ K hK => ?_, trivial⟩

        · clear hpre hψ
          go_simp
          exact hK _ _ γ HR.out (fun _ _ _ _ h => h) (fun _ _ _ h => h) rfl
        · have q0 : ev (.tmp 23) = _ := hpre 0 (by decide)
          have hbx := HR.out.2.1 hψ.1
          have hzx := hbx.lt
          have c4 := hbx.cell 0
          simp only [List.getElem?_toArray, List.getElem?_cons_zero, List.getElem?_cons_succ] at c4
          clear hbx
          clear hpre hψ
          go_simp
          exact hK _ _ γ HR.out (fun _ _ _ _ h => h) (fun _ _ _ h => h) rfl
        · clear hpre hψ
          go_simp
          exact hK _ _ γ HR.out (fun _ _ _ _ h => h) (fun _ _ _ h => h) rfl
        · have q0 : ev (.tmp 25) = _ := hpre 2 (by decide)
          have h20 : γ 2 = 0 := hψ.2.2 rfl
          obtain ⟨⟨r1, r2, i9, hi9, r3⟩, r4, r5⟩ := HR.out
          rw [h20] at hi9
          have C := Lib.hid (KN.out W i9 r3 r1 (by have := HK4.out; omega))
          have HX := Lib.hid (And.intro (And.intro r1 (And.intro r2 (And.intro hi9 r3))) (And.intro r4 r5))
          clear r1 r2 r3 r4 r5 hi9 hpre
          have HP := Lib.hid hψ
          clear hψ
          go_simp
          refine C.out.mono ?_
          rintro e w7 ⟨x, rfl, hr, hk7, hb7⟩
          obtain ⟨⟨r1, r2, hi9, r3⟩, r4, r5⟩ := HX.out
          have hkg := keep_grown hk7
          refine hK _ w7 (fun i => if i = 2 then 1 else γ i) ⟨⟨r1.trans (hk7.below r1.size (fun b e => by rw [e]; exact HDB.out)), hk7.blk r2 (fun e => blk_ne r2 r3 (by decide) e), i9 + 1, by simp; omega, hb7⟩, fun e => hk7.blk (r4 e) (fun e' => blk_ne (r4 e) r3 (by decide) e'), fun e => (r5 e).kept hkg (Or.inr (own_ne (r5 e) r3 (by decide)).symm)⟩ (fun j u hj hne h => cdPhi_turn (fun b cs hc => hk7.blk hc (fun e => blk_ne hc r3 (by decide) e)) rfl hne (fun e => by subst e; exact absurd (by decide) hj) (fun e => by subst e; exact absurd (by decide) hj) h) (fun _ j h1 h2 => ⟨h2.1, h2.2.1, fun e => absurd e h1⟩) ⟨x, rfl, hr, rfl⟩
        · obtain ⟨r, q0, hr, _⟩ := hpre 3 (by decide)
          replace q0 : ev (.tmp 26) = _ := q0
          have wm : IntKind.i64.wrap (1000 * r) = 1000 * r := IntWalk.i64_in _ (by omega)
          have HQ : Hid (0 ≤ 1000 * r ∧ 1000 * r ≤ 255000) := Lib.hid (by omega)
          clear hpre hψ hr
          go_simp
          exact hK _ _ γ HR.out (fun _ _ _ _ h => h) (fun _ _ _ h => h) ⟨_, rfl, HQ.out⟩
        · obtain ⟨r, q0, hr⟩ := hpre 4 (by decide)
          replace q0 : ev (.tmp 27) = _ := q0
          have HRW9 := HR
          have HRR := Lib.hid hr
          clear hpre hψ hr
          go_simp
          obtain ⟨⟨r1, r2, i9, hi9, r3⟩, r4, r5⟩ := HRW9.out
          have hB5 : Below W.heap.size W (W.alloc (.cells #[.int .i64 r] 3)) := (Below.refl _ _).alloc (Nat.le_refl _) _
          exact hK _ _ γ ⟨⟨below3 r1 hB5 (Nat.le_refl _), r2.below hB5 r2.lt, i9, hi9, r3.below hB5 r3.lt⟩, fun e => (r4 e).below hB5 (r4 e).lt, fun e => row_next (r5 e) hB5⟩ (fun j u _ _ h => cdPhi_next hB5 h) (fun _ _ _ h => h) ⟨W.heap.size, r, rfl, HRR.out, fun _ => heap_alloc_new W _⟩
        · have q0 : ev (.tmp 24) = _ := hpre 1 (by decide)
          have hγ1 : γ 1 = 0 := hψ.2.1 rfl
          have hγ0 : γ 0 = 0 := hψ.1
          obtain ⟨b1, r, q6, hrr, hb1⟩ := hpre 5 (by decide)
          replace q6 : ev (.tmp 28) = _ := q6
          have hb1 := hb1 hγ1
          obtain ⟨⟨r1, r2, i9, hi9, r3⟩, r4, r5⟩ := HR.out
          have hrow := r5 hγ1
          have hbx := r4 hγ0
          obtain ⟨v', W', hr, h2, h3, _, _⟩ := run_append_own_at (P := Try.prog) W w2.heap.size 30 30 3 i0 (.int .i64 0) 1 8 Try.underlying30 hi.out.1 hi.out.2.1 hi.out.2.2.1 hi.out.2.2.2 rfl (by decide) vv k (L.flatMap encI) hrow ⟨b1, 0, none⟩ 1 1 [.int .i64 r] rfl (fun j u hj => by
            rw [add0, Blk.cell hb1]
            simpa using hj) (by intro u hu; simp only [List.mem_cons, List.mem_nil_iff, or_false] at hu; subst hu; rfl) (by have := HK4.out; simp only [maxLen]; omega) (by have := HK4.out; omega) r1.size
          unfold execOp
          simp only [resolve, invoke, builtin, Sem.run_bind, Sem.run_pure, Result.andThen_ok, List.map_toArray, List.map_cons, List.map_nil, q0, q6, hr]
          rw [show L.flatMap encI ++ [.int .i64 r] = (L ++ [r]).flatMap encI by rw [List.flatMap_append]; rfl] at h2
          obtain ⟨A', c', e'⟩ := row_slice h2
          subst e'
          have hbl : Below w2.heap.size W W' := (Below.refl _ _).grown h3 r1.size (fun r e => (World.ownsRow.lt hrow r e).1)
          refine hK _ W' (fun i => if i = 1 then 1 else γ i) ⟨⟨r1.trans hbl, r2.kept h3 (own_ne hrow r2 (by decide)), i9, hi9, r3.kept h3 (own_ne hrow r3 (by decide))⟩, fun e => hbx.kept h3 (own_ne hrow hbx (by decide)), fun e => by simp at e⟩ (fun j u hj hne h => cdPhi_grown hne (fun e => by subst e; exact absurd (by decide) hj) (by simp) rfl h) (fun _ j h1 h2 => ⟨h2.1, fun e => absurd e h1, h2.2.2⟩) ⟨A', c', r, rfl, hrr, by simpa using h2⟩
        · clear hpre hψ
          go_simp
          exact hK _ _ γ HR.out (fun _ _ _ _ h => h) (fun _ _ _ h => h) rfl
        · have q0 : ev (.tmp 30) = _ := hpre 7 (by decide)
          have hγ0 : γ 0 = 0 := hψ.1
          obtain ⟨A9, c8, r, q7, hrr, hrow⟩ := hpre 6 (by decide)
          replace q7 : ev (.tmp 29) = _ := q7
          obtain ⟨⟨r1, r2, i9, hi9, r3⟩, r4, r5⟩ := HR.out
          have hbx := r4 hγ0
          have hzx := hbx.lt
          have fz := hbx.frozen
          have c4 := hbx.cell 0
          simp only [List.getElem?_toArray, List.getElem?_cons_zero, List.getElem?_cons_succ] at c4
          have HX := Lib.hid (And.intro hbx (And.intro hrow (And.intro r1 (And.intro r2 (And.intro (And.intro hi9 r3) hrr)))))
          clear hpre hbx hrow r1 r2 r3 r4 r5 hi9 hrr hψ
          go_simp
          obtain ⟨hbx, hrow, r1, r2, ⟨hi9, r3⟩, hrr⟩ := HX.out
          refine hK undef _ (fun i => if i = 2 then γ 2 else 1) ⟨⟨r1.setCell HPX.out.1 _, r2.far HPX.out.2.1 _, i9, by simpa using hi9, r3.far (fun e => blk_ne hbx r3 (by decide) e.symm) _⟩, fun e => by simp at e, fun e => by simp at e⟩ (fun j u h1 h2 h3 => cdPhi_store hbx (by simp) (by simp) h2 h3) (fun h => absurd rfl h) ⟨A9, c8, r, hrr, ?_, hrow.kept (grown_set W pb 0 _) (Or.inr (own_ne hrow hbx (by decide)).symm)⟩
          have h := hbx.set_ 0 (.slice A9 (k + 1) c8)
          simpa using h
      · intro vs wy γ hvl hR hφ
        have q3 := hφ 3 (by decide)
        have q8 := hφ 8 (by decide)
        have HR := Lib.hid hR
        clear hφ hR
        match vs, hvl with
        | [y0, y1, y2, y3, y4, y5, y6, y7, y8], _ =>
        simp only [List.getD_cons_zero, List.getD_cons_succ] at q3 q8
        obtain ⟨_, -, _, hγ2⟩ := q3
        obtain ⟨A9, c9, r9, hr9, hbx9, hro9⟩ := q8
        have HN : Hid (CdI w2 dx pb rb (.slice A2 n2 c2) out pump (.slice A9 (k + 1) c9) (k + 1) (L ++ [r9]) wy) := Lib.hid ⟨HR.out.1.1, HR.out.1.2.1, by obtain ⟨i, h1, h2⟩ := HR.out.1.2.2; rw [hγ2] at h1; exact ⟨i, by omega, h2⟩, hbx9, hro9, by rw [List.length_append, HCD.out.len]; rfl, all_snoc2 HCD.out.bd hr9⟩
        clear HR hγ2 hro9 hr9 hbx9
        simp [putAll]
        go_wp2
        go_roundw
        case rel => exact ⟨k + 1, L ++ [r9], _, by omega, by go_num, HN⟩
        case measure => simp [intOf]; omega
    · obtain rfl : rn = k := by omega
      obtain ⟨A9, c9, rfl⟩ := row_slice HCD.out.row
      have hres := HCD.out.res
      have d0 := hres.cell 0
      have d1 := hres.cell 1
      have d2 := hres.cell 2
      simp only [List.getElem?_toArray, List.getElem?_cons_zero, List.getElem?_cons_succ] at d0 d1 d2
      have zr := hres.lt
      have fr := hres.frozen
      obtain ⟨W', hW'⟩ : ∃ z, z = (((wr.setCell ⟨rb, 0, none⟩ (.slice A9 rn c9)).setCell ⟨rb, 1, none⟩ (.int .i64 out)).setCell ⟨rb, 2, none⟩ (.int .i64 pump)) := ⟨_, rfl⟩
      have hkk : Keep (fun b => b = rb) wr W' := by rw [hW']; exact ((((Keep.refl (fun b => b = rb) wr).setCell rfl _).setCell rfl _).setCell rfl _)
      have hrow : Blk W' rb 35 #[.slice A9 rn c9, .int .i64 out, .int .i64 pump] := by
        have h := (((hres.set_ 0 (.slice A9 rn c9)).set_ 1 (.int .i64 out)).set_ 2 (.int .i64 pump))
        rw [hW']
        simpa using h
      have e0 := HCD.out.box.cell 0
      have e1 := HCD.out.box.cell 1
      have e2 := HCD.out.box.cell 2
      have ze := HCD.out.box.lt
      simp only [List.getElem?_toArray, List.getElem?_cons_zero, List.getElem?_cons_succ] at e0 e1 e2
      have hL := below3 (below3 B0.out B1.out (Nat.le_refl _)) HCD.out.low (Nat.le_refl _)
      have HFIN : Hid (W'.ownsRow w.heap.size 3 1 (.slice A9 rn c9) rn (L.flatMap encI) ∧ Below w.heap.size w W') := Lib.hid ⟨row_low (HCD.out.row.kept (keep_grown hkk) (Or.inr (own_ne HCD.out.row HCD.out.res (by decide)).symm)) ((below3 B0.out B1.out (Nat.le_refl _))).size, hL.trans (hkk.below hL.size (fun b e => by rw [e]; exact Nat.le_trans (B0.out).size (Nat.le_of_eq Zrb.out)))⟩
      have HROW := Lib.hid hrow
      clear hkk hrow hres hL
      go_wp2
      rw [← hW']
      refine bodyPost_ret (results_cell_row rfl _ _ rb 35 _ _ _ rfl HROW.out Try.underlying35 rfl (by kernel_rfl)) rfl ?_
      exact ⟨A9, c9, out, pump, L, rfl, HFIN.out.1, HCD.out.len, HCD.out.bd, ⟨HOUT.out, HPUMP.out⟩, HFIN.out.2⟩
end Go.Proofs.Ytldbciflpnhfpaa
