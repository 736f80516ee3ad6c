/- heat: flows. -/
import Derived.Test.YtldbciflpnhfpaaHtA
import Derived.Lib.MinMax

set_option linter.unusedSimpArgs false
set_option linter.unusedVariables false
namespace Go.Proofs.Ytldbciflpnhfpaa
open Go.RowKit

/-- What fill works with; it writes into block lb only. -/
structure FlX (h : Hl) (rA wA bA cA : Option Addr) (rn rc wn wc bn bc cn cc hx lx ox fx lb ob B : Nat) (W : World) : Prop where
  bh : Blk W hx 28 #[.slice rA rn rc, .slice wA wn wc, .slice bA bn bc, .slice cA cn cc]
  bl : Blk W lx 30 #[.slice (some ⟨lb, 0, none⟩) bn bn]
  bo : Blk W ox 30 #[.slice (some ⟨ob, 0, none⟩) bn bn]
  bf : Blk W fx 134 #[.func (.func 75) #[] #[.pointer (some ⟨hx, 0, none⟩), .pointer (some ⟨lx, 0, none⟩), .pointer (some ⟨ox, 0, none⟩), .pointer (some ⟨fx, 0, none⟩)]]
  op : Blk W ob 3 (intsA (opL bn h.brs))
  br : Rd W B 3 Brn.enc bA bn h.brs
  lt : lb < W.heap.size
  lo : B ≤ lb
  ne : hx ≠ lb ∧ lx ≠ lb ∧ ox ≠ lb ∧ fx ≠ lb ∧ ob ≠ lb
section
variable {h : Hl} {rA wA bA cA : Option Addr} {rn rc wn wc bn bc cn cc hx lx ox fx lb ob B : Nat} {W W' : World}
theorem FlX.keep (x : FlX h rA wA bA cA rn rc wn wc bn bc cn cc hx lx ox fx lb ob B W) (k : Keep (fun i => i = lb) W W') : FlX h rA wA bA cA rn rc wn wc bn bc cn cc hx lx ox fx lb ob B W' :=
  ⟨k.blk x.bh x.ne.1, k.blk x.bl x.ne.2.1, k.blk x.bo x.ne.2.2.1, k.blk x.bf x.ne.2.2.2.1, k.blk x.op x.ne.2.2.2.2, x.br.keep (fun p hp => World.cell?_of_block (k.block p.block (by have := x.lt; have := x.lo; omega) (by have := x.lo; omega))), Nat.lt_of_lt_of_le x.lt k.size, x.lo, x.ne⟩
theorem FlX.below (x : FlX h rA wA bA cA rn rc wn wc bn bc cn cc hx lx ox fx lb ob B W) (k : Below W.heap.size W W') : FlX h rA wA bA cA rn rc wn wc bn bc cn cc hx lx ox fx lb ob B W' := x.keep (Keep.of_below k)
end
/-- What fill leaves in the list. -/
structure FlEnd (h : Hl) (pump : Int) (bn b : Nat) (L L' : List Int) : Prop where
  len : L'.length = bn
  new : ∀ j, Desc h b j → L'.getD j 0 = fl h pump j
  old : ∀ j, j < bn → L'.getD j 0 = L.getD j 0 ∨ L'.getD j 0 = fl h pump j
def flPhi (fn : Value) (xb ob bn k b lb : Nat) (F o S q : Int) (h : Hl) (pump : Int) (L1 : List Int) : Nat → Value → World → (Nat → Nat) → Prop
  | 0, v, _, _ => v = fn
  | 1, v, _, _ => v = .int .i64 (k : Int)
  | 2, v, _, _ => v = .int .i64 F
  | 3, v, _, _ => v = .pointer (some ⟨xb, 1, none⟩)
  | 4, v, _, _ => v = .int .i64 o
  | 5, v, _, _ => v = .int .i64 (F * o)
  | 6, v, _, _ => v = .slice (some ⟨ob, 0, none⟩) bn bn
  | 7, v, _, _ => v = .int .i64 (b : Int)
  | 8, v, _, _ => v = .pointer (some ⟨ob, b, none⟩)
  | 9, v, _, _ => v = .int .i64 S
  | 10, v, _, _ => v = .int .i64 q
  | 11, _, W, _ => ∃ L2, Blk W lb 3 (intsA L2) ∧ FlEnd h pump bn k L1 L2
  | _, _, _, _ => True
theorem flPhi_w {fn : Value} {xb ob bn k b lb : Nat} {F o S q : Int} {h : Hl} {pump : Int} {L1 : List Int} {j : Nat} {v : Value} {W W' : World} {γ γ' : Nat → Nat} (h11 : j ≠ 11) (hh : flPhi fn xb ob bn k b lb F o S q h pump L1 j v W γ) : flPhi fn xb ob bn k b lb F o S q h pump L1 j v W' γ' := by
  unfold flPhi at hh ⊢
  split at hh <;> first | exact hh | exact absurd rfl h11 | trivial
set_option maxRecDepth 100000 in
set_option maxHeartbeats 4000000 in
theorem fill_any (h : Hl) (rA wA bA cA : Option Addr) (rn rc wn wc bn bc cn cc hx lx ox fx lb ob B : Nat) (pump : Int) (hp : 0 ≤ pump ∧ pump ≤ 100000) (ok : HlOk h) (hbn : h.brs.length = bn) : ∀ (m b : Nat) (share : Int) (L : List Int) (w : World), bn ≤ b + m → b < bn → FlX h rA wA bA cA rn rc wn wc bn bc cn cc hx lx ox fx lb ob B w → Blk w lb 3 (intsA L) → L.length = bn → (∀ j, j < bn → L.getD j 0 = 0 ∨ L.getD j 0 = fl h pump j) → (0 ≤ share ∧ share ≤ 100000) → max 0 (share - (h.br b).lk) = fl h pump b →
    Calls Try.prog 75 #[.int .i64 (b : Int), .int .i64 share, .pointer (some ⟨hx, 0, none⟩), .pointer (some ⟨lx, 0, none⟩), .pointer (some ⟨ox, 0, none⟩), .pointer (some ⟨fx, 0, none⟩)] w fun e w' => e = .returned (.tuple #[]) ∧ Keep (fun i => i = lb) w w' ∧ ∃ L', Blk w' lb 3 (intsA L') ∧ FlEnd h pump bn b L L' := by
  intro m
  induction m with
  | zero => intro b _ _ _ h1 h2; omega
  | succ m ih =>
    intro b share L w hm hb hx0 hL hln hz hsh hmx
    have IH := Lib.hid ih
    have OK := Lib.hid ok
    have HP := Lib.hid hp
    have HX := Lib.hid hx0
    have HL := Lib.hid hL
    have HLN := Lib.hid hln
    have HZ := Lib.hid hz
    have HM := Lib.hid hm
    have HBN := Lib.hid hbn
    have hb16 : bn ≤ 16 := by rw [← hbn]; exact ok.b16
    have HFB := Lib.hid (And.intro (fl_nonneg ok pump (show b < h.brs.length by omega)) (fl_le ok hp.1 b (by omega)))
    have HBB := Lib.hid (ok.brn b (by omega))
    obtain ⟨F, hF⟩ : ∃ z, z = fl h pump b := ⟨_, rfl⟩
    rw [← hF] at HFB hmx
    have HF := Lib.hid hF
    obtain ⟨bb0, off0, e1, hbb, hxx, c0, c1, c2⟩ := hx0.br.brAt hb
    subst e1
    have HBBk : Hid (bb0 < lb) := Lib.hid (by have := hx0.lo; omega)
    have zb : bb0 < w.heap.size := block_of_cell c0
    obtain ⟨lkb, hlk⟩ : ∃ z, z = (h.br b).lk := ⟨_, rfl⟩
    rw [← hlk] at c2 HBB hmx
    have wl : IntKind.i64.wrap (share - lkb) = share - lkb := IntWalk.i64_in _ (by have := HBB.out.2.2; omega)
    have hmx2 : max 0 (share - lkb) = F := hmx
    have h0 := hx0.bh.cell 2
    have zh := hx0.bh.lt
    have l0 := hx0.bl.cell 0
    have zl := hx0.bl.lt
    simp only [List.getElem?_toArray, List.getElem?_cons_zero, List.getElem?_cons_succ] at h0 l0
    have zlb := HL.out.lt
    have flb := HL.out.frozen
    have n1 := HX.out.ne.1
    have n2 := HX.out.ne.2.1
    have n3 : lb ≠ hx := n1.symm
    have n4 : lb ≠ lx := n2.symm
    have hb0 : (0 : Int) ≤ (b : Int) := by omega
    have hbn1 : (b : Int) < (bn : Int) := by omega
    obtain ⟨y, hy⟩ : ∃ y, L[b]? = some y := ⟨_, List.getElem?_eq_getElem (by omega)⟩
    have cy := HL.out.intAt hy
    clear hx0 hL hln hz hm hbn hp ok ih hxx hbb hlk hF hy c0 c1 hmx
    go_enter Try.func75, Try.ntmps75
    go_wp2_with fail
    obtain ⟨w1, hw1⟩ : ∃ z, z = w.setCell ⟨lb, b, none⟩ (.int .i64 F) := ⟨_, rfl⟩
    have HK1 : Hid (Keep (fun i => i = lb) w w1) := Lib.hid (by rw [hw1]; exact (Keep.refl (fun i => i = lb) w).setCell (p := ⟨lb, b, none⟩) rfl _)
    have HL1 : Hid (Blk w1 lb 3 (intsA (L.set b F))) := Lib.hid (by rw [hw1]; have h9 := HL.out.set_ b (.int .i64 F); rw [intsA_set] at h9; exact h9)
    rw [← hw1]
    have HLB : Hid ((L.set b F).getD b 0 = F) := Lib.hid (by rw [List.getD_eq_getElem?_getD, List.getElem?_set_self (by rw [HLN.out]; exact hb)]; rfl)
    have HLO : Hid (∀ j, j < bn → (L.set b F).getD j 0 = L.getD j 0 ∨ (L.set b F).getD j 0 = fl h pump j) := Lib.hid (fun j hj => by
      by_cases e : b = j
      · subst e; right; rw [HLB.out, HF.out]
      · left; rw [List.getD_eq_getElem?_getD, List.getD_eq_getElem?_getD, List.getElem?_set_ne e])
    clear hw1 h0 zh l0 zl zlb flb cy zb n1 n2 n3 n4 wl hmx2
    go_loopw [27] (fun i wr => ∃ k : Nat, k ≤ bn ∧ i = .int .i64 ((k : Nat) : Int) ∧ ∃ L1, Hid (Keep (fun i => i = lb) w wr ∧ Blk wr lb 3 (intsA L1) ∧ L1.length = bn ∧ L1.getD b 0 = F ∧ (∀ c, c < k → (h.br c).up = (b : Int) → ∀ j, Desc h c j → L1.getD j 0 = fl h pump j) ∧ (∀ j, j < bn → L1.getD j 0 = L.getD j 0 ∨ L1.getD j 0 = fl h pump j))) (fun i _ => bn - (intOf i).toNat)
    case atStart => exact ⟨0, by omega, rfl, _, Lib.hid ⟨HK1.out, HL1.out, by rw [List.length_set]; exact HLN.out, HLB.out, fun c hc => absurd hc (by omega), HLO.out⟩⟩
    case round =>
      obtain ⟨k, hk, rfl, L1, HW⟩ := hrel
      have HXW := Lib.hid (HX.out.keep HW.out.1)
      by_cases hlt : k < bn
      · obtain ⟨bb, off, e1, hb8, hx8, c0, c1, c2⟩ := HXW.out.br.brAt hlt
        obtain ⟨rfl, rfl⟩ : bb0 = bb ∧ off0 = off := by simpa using e1
        have hlt2 : k < h.brs.length := by rw [HBN.out]; exact hlt
        have HBK := Lib.hid (OK.out.brn k hlt2)
        have zb : bb0 < wr.heap.size := block_of_cell c0
        have hk0 : (0 : Int) ≤ (k : Int) := by omega
        have hkn : (k : Int) < (bn : Int) := by omega
        have g1 : wr.heap.size < wr.heap.size + 1 := by omega
        obtain ⟨up, hup⟩ : ∃ z, z = (h.br k).up := ⟨_, rfl⟩
        obtain ⟨op, hop⟩ : ∃ z, z = (h.br k).op := ⟨_, rfl⟩
        obtain ⟨lk, hlk⟩ : ∃ z, z = (h.br k).lk := ⟨_, rfl⟩
        rw [← hup] at c0 HBK
        rw [← hop] at c1 HBK
        rw [← hlk] at c2 HBK
        have HU := Lib.hid (And.intro hup (And.intro hop hlk))
        obtain ⟨S, hS⟩ : ∃ z, z = opS (b : Int) h.brs := ⟨_, rfl⟩
        have HS := Lib.hid hS
        have cS : wr.cell? ⟨ob, b, none⟩ = some (.int .i64 S) := by rw [hS]; exact HXW.out.op.intAt (opL_get hb)
        have zS := block_of_cell cS
        dsimp only at zS
        have o0 := HXW.out.bo.cell 0
        have zo := HXW.out.bo.lt
        simp only [List.getElem?_toArray, List.getElem?_cons_zero, List.getElem?_cons_succ] at o0
        clear e1 hb8 hx8 hup hop hlk hS
        have HNO : up ≠ (b : Int) ∨ ¬ 0 < S → Hid (∀ c, c < k + 1 → (h.br c).up = (b : Int) → ∀ j, Desc h c j → L1.getD j 0 = fl h pump j) := fun hno => Lib.hid (fun c hc hu j hd => by
          rcases Nat.lt_succ_iff_lt_or_eq.1 hc with hc | hc
          · exact HW.out.2.2.2.2.1 c hc hu j hd
          · subst hc
            rw [← HU.out.1] at hu
            rcases hno with h1 | h1
            · exact absurd hu h1
            · have hjn := desc_lt OK.out hd hlt2
              have hz9 := desc_dry OK.out (pump := pump) hd (fl_dry OK.out hlt2 (by rw [← HU.out.1]; exact hu) (Or.inr (by rw [← HS.out]; exact h1)))
              rcases HW.out.2.2.2.2.2 j (by rw [← HBN.out]; exact hjn) with h2 | h2
              · rcases HZ.out j (by rw [← HBN.out]; exact hjn) with h3 | h3
                · rw [h2, h3, hz9]
                · rw [h2, h3]
              · exact h2)
        by_cases hu : up = (b : Int)
        · subst hu
          have db : ((b : Int) == (b : Int)) = true := beq_self_eq_true _
          by_cases hS : 0 < S
          · have dS : decide (0 < S) = true := decide_eq_true hS
            go_wp2_with fail
            obtain ⟨xb, hxb⟩ : ∃ z, z = wr.heap.size := ⟨_, rfl⟩
            obtain ⟨wx, hwx⟩ : ∃ z, z = wr.alloc (.cells #[.int .i64 (b : Int), .int .i64 op, .int .i64 lk] 71) := ⟨_, rfl⟩
            have hBa : Below wr.heap.size wr wx := by rw [hwx]; exact (Below.refl _ _).alloc (Nat.le_refl _) _
            have hbx : Blk wx xb 71 #[.int .i64 (b : Int), .int .i64 op, .int .i64 lk] := by rw [hwx, hxb]; exact heap_alloc_new wr _
            have HX2 := Lib.hid (And.intro (HXW.out.below hBa) (And.intro (HW.out.1.trans (Keep.of_below hBa)) hbx))
            have HL2 := Lib.hid (HW.out.2.1.below hBa HW.out.2.1.lt)
            have HXB : Hid (xb ≠ lb) := Lib.hid (by have := HW.out.2.1.lt; omega)
            rw [← hwx, ← hxb]
            clear hBa hbx hwx hxb c0 c1 c2 zb g1 cS zS o0 zo HNO
            obtain ⟨q, hq⟩ : ∃ z, z = F * op / S := ⟨_, rfl⟩
            have hkb : b < k := by have := HBK.out.1; omega
            have HAR : Hid (IntKind.i64.wrap (F * op) = F * op ∧ (F * op).tdiv S = q ∧ IntKind.i64.wrap q = q ∧ ¬ S = 0) := Lib.hid (by
              have h1 := HFB.out
              have h2 := HP.out
              have h3 := HBK.out.2.1
              have h4 : 0 ≤ F * op := Int.mul_nonneg h1.1 h3.1
              have h5 : F * op ≤ 100000 * 100 := Int.mul_le_mul (by omega) h3.2 h3.1 (by omega)
              have h6 := share_le (S := S) h1.1 h3.1 (by rw [HS.out, HU.out.2.1]; exact (opS_ge OK.out.op0).2 _ (br_mem hlt2) HU.out.1.symm) hS
              rw [← hq] at h6
              refine ⟨IntWalk.i64_in _ (by omega), ?_, IntWalk.i64_in _ (by omega), by omega⟩
              rw [hq]
              exact Int.tdiv_eq_ediv_of_nonneg h4)
            have HQ : Hid ((0 ≤ q ∧ q ≤ 100000) ∧ max 0 (q - (h.br k).lk) = fl h pump k) := Lib.hid (by
              have h1 := HFB.out
              have h2 := HP.out
              have h3 := HBK.out.2.1
              have h6 := share_le (S := S) h1.1 h3.1 (by rw [HS.out, HU.out.2.1]; exact (opS_ge OK.out.op0).2 _ (br_mem hlt2) HU.out.1.symm) hS
              rw [← hq] at h6
              refine ⟨by omega, ?_⟩
              rw [fl_step OK.out pump hlt2, if_neg (by omega), ← HU.out.1, Int.toNat_natCast, ← HS.out, if_pos hS, ← HF.out, ← HU.out.2.1, ← hq])
            clear hq
            refine wp_region_free10 11 (by kernel_rfl) [some 43, some 44, some 45, some 46, some 47, some 48, some 49, some 50, some 51, some 52, some 53, some 54] [[], [], [], [], [3], [2, 4], [], [], [6, 7], [8], [5, 9], [0, 1, 10]] [(5, .pointer (some ⟨fx, 0, none⟩)), (9, .int .i64 (k : Int)), (8, .int .i64 F), (10, .pointer (some ⟨xb, 0, none⟩)), (4, .pointer (some ⟨ox, 0, none⟩)), (0, .int .i64 (b : Int))] (fun W γ => (FlX h rA wA (some ⟨bb0, off0, none⟩) cA rn rc wn wc bn bc cn cc hx lx ox fx lb ob B W ∧ Keep (fun i => i = lb) w W ∧ Blk W xb 71 #[.int .i64 (b : Int), .int .i64 op, .int .i64 lk]) ∧ (γ 0 = 0 → Blk W lb 3 (intsA L1))) (flPhi (.func (.func 75) #[] #[.pointer (some ⟨hx, 0, none⟩), .pointer (some ⟨lx, 0, none⟩), .pointer (some ⟨ox, 0, none⟩), .pointer (some ⟨fx, 0, none⟩)]) xb ob bn k b lb F op S q h pump L1) (fun _ _ γ => γ 0 = 0) (by kernel_rfl) (by kernel_rfl) rfl (by kernel_rfl) ?_ ?_ ⟨fun _ => 0, ⟨⟨HX2.out.1.below (Below.refl _ _).drew, HX2.out.2.1.drew, HX2.out.2.2.below (Below.refl _ _).drew HX2.out.2.2.lt⟩, fun _ => HL2.out.below (Below.refl _ _).drew HL2.out.lt⟩, fun i _ => rfl⟩ ?_ ?_
            · intro z hz
              simp only [List.mem_cons, List.mem_nil_iff, or_false] at hz
              rcases hz with rfl | rfl | rfl | rfl | rfl | rfl
              all_goals exact ⟨by kernel_rfl, rfl⟩
            · intro i v W γ hi h
              rcases i with _ | _ | _ | _ | _ | _ | _ | _ | _ | _ | _ | _ | i
              all_goals first | exact h | (simp at hi)
            · refine ⟨?_, ?_, ?_, ?_, ?_, ?_, ?_, ?_, ?_, ?_, ?_, ?_, trivial⟩
              all_goals
                intro a9 W γ ev hcc hff hfx hR hψ hpre
                simp only [List.mem_cons, List.mem_nil_iff, or_false, forall_eq, forall_eq_or_imp] at hfx
                obtain ⟨f0, f1, f2, f3, f4, f5⟩ := hfx
                have HR := Lib.hid hR
                clear hR
              · refine ⟨fun hg K hK => ?_, trivial⟩
                clear hg
                have hbk := HR.out.1.1.bf
                have hzg := hbk.lt
                have e0 := hbk.cell 0
                simp only [List.getElem?_toArray, List.getElem?_cons_zero, List.getElem?_cons_succ] at e0
                clear hbk
                clear hpre hψ
                go_simp
                exact hK _ _ γ HR.out (fun _ _ _ _ h => h) (fun _ _ _ h => h) rfl
              · refine ⟨fun hg K hK => ?_, trivial⟩
                clear hg
                clear hpre hψ
                go_simp
                exact hK _ _ γ HR.out (fun _ _ _ _ h => h) (fun _ _ _ h => h) rfl
              · refine ⟨fun hg K hK => ?_, trivial⟩
                clear hg
                clear hpre hψ
                go_simp
                exact hK _ _ γ HR.out (fun _ _ _ _ h => h) (fun _ _ _ h => h) rfl
              · refine ⟨fun hg K hK => ?_, trivial⟩
                clear hg
                clear hpre hψ
                go_simp
                exact hK _ _ γ HR.out (fun _ _ _ _ h => h) (fun _ _ _ h => h) rfl
              · refine ⟨fun hg K hK => ?_, trivial⟩
                clear hg
                have q0 : ev (.tmp 46) = _ := hpre 3 (by decide)
                have hbk := HR.out.1.2.2
                have hzg := hbk.lt
                have e1 := hbk.cell 1
                simp only [List.getElem?_toArray, List.getElem?_cons_zero, List.getElem?_cons_succ] at e1
                clear hbk
                clear hpre hψ
                go_simp
                exact hK _ _ γ HR.out (fun _ _ _ _ h => h) (fun _ _ _ h => h) rfl
              · refine ⟨fun hg K hK => ?_, trivial⟩
                clear hg
                have q0 : ev (.tmp 45) = _ := hpre 2 (by decide)
                have q1 : ev (.tmp 47) = _ := hpre 4 (by decide)
                have wm := HAR.out.1
                clear hpre hψ
                go_simp
                exact hK _ _ γ HR.out (fun _ _ _ _ h => h) (fun _ _ _ h => h) rfl
              · refine ⟨fun hg K hK => ?_, trivial⟩
                clear hg
                have hbk := HR.out.1.1.bo
                have hzg := hbk.lt
                have e0 := hbk.cell 0
                simp only [List.getElem?_toArray, List.getElem?_cons_zero, List.getElem?_cons_succ] at e0
                clear hbk
                clear hpre hψ
                go_simp
                exact hK _ _ γ HR.out (fun _ _ _ _ h => h) (fun _ _ _ h => h) rfl
              · refine ⟨fun hg K hK => ?_, trivial⟩
                clear hg
                clear hpre hψ
                go_simp
                exact hK _ _ γ HR.out (fun _ _ _ _ h => h) (fun _ _ _ h => h) rfl
              · refine ⟨fun hg K hK => ?_, trivial⟩
                clear hg
                have q0 : ev (.tmp 49) = _ := hpre 6 (by decide)
                have q1 : ev (.tmp 50) = _ := hpre 7 (by decide)
                clear hpre hψ
                go_simp
                exact hK _ _ γ HR.out (fun _ _ _ _ h => h) (fun _ _ _ h => h) rfl
              · refine ⟨fun hg K hK => ?_, trivial⟩
                clear hg
                have q0 : ev (.tmp 51) = _ := hpre 8 (by decide)
                have hbk := HR.out.1.1.op
                have hzg := hbk.lt
                have cS : W.cell? ⟨ob, b, none⟩ = some (.int .i64 S) := by rw [HS.out]; exact hbk.intAt (opL_get hb)
                clear hbk
                clear hpre hψ
                go_simp
                exact hK _ _ γ HR.out (fun _ _ _ _ h => h) (fun _ _ _ h => h) rfl
              · refine ⟨fun hg K hK => ?_, trivial⟩
                clear hg
                have q0 : ev (.tmp 48) = _ := hpre 5 (by decide)
                have q1 : ev (.tmp 52) = _ := hpre 9 (by decide)
                have tq := HAR.out.2.1
                have wq := HAR.out.2.2.1
                have s0 := HAR.out.2.2.2
                clear hpre hψ
                go_simp
                exact hK _ _ γ HR.out (fun _ _ _ _ h => h) (fun _ _ _ h => h) rfl
              · refine ⟨fun hg K hK => ?_, trivial⟩
                clear hg
                have q0 : ev (.tmp 43) = _ := hpre 0 (by decide)
                have q1 : ev (.tmp 44) = _ := hpre 1 (by decide)
                have q2 : ev (.tmp 53) = _ := hpre 10 (by decide)
                have hlb := HR.out.2 hψ
                have HR9 : Hid ((FlX h rA wA (some ⟨bb0, off0, none⟩) cA rn rc wn wc bn bc cn cc hx lx ox fx lb ob B W ∧ Keep (fun i => i = lb) w W ∧ Blk W xb 71 #[.int .i64 (b : Int), .int .i64 op, .int .i64 lk]) ∧ Blk W lb 3 (intsA L1)) := Lib.hid ⟨HR.out.1, hlb⟩
                have C := Lib.hid (IH.out k q L1 W (by have := HM.out; omega) hlt HR9.out.1.1 HR9.out.2 HW.out.2.2.1 (fun j hj => by
                  rcases HW.out.2.2.2.2.2 j hj with h2 | h2
                  · rcases HZ.out j hj with h3 | h3
                    · left; rw [h2]; exact h3
                    · right; rw [h2]; exact h3
                  · exact Or.inr h2) HQ.out.1 HQ.out.2)
                clear hpre hψ hlb
                go_simp
                refine C.out.mono ?_
                rintro e9 w5x ⟨rfl, hK5, L2, hL5, hE5⟩
                exact hK _ w5x (fun _ => 1) ⟨⟨HR9.out.1.1.keep hK5, HR9.out.1.2.1.trans hK5, hK5.blk HR9.out.1.2.2 HXB.out⟩, fun e => by simp at e⟩ (fun j u _ hne h => flPhi_w hne h) (fun h => absurd rfl h) ⟨L2, hL5, hE5⟩
            · intro vs wy γ hvl hR hφ
              have q11 := hφ 11 (by decide)
              have HR := Lib.hid hR
              clear hφ hR
              match vs, hvl with
              | [y0, y1, y2, y3, y4, y5, y6, y7, y8, y9, y10, y11], _ =>
              simp only [List.getD_cons_zero, List.getD_cons_succ] at q11
              obtain ⟨L2, hL2, hE2⟩ := q11
              have HN : Hid (Keep (fun i => i = lb) w wy ∧ Blk wy lb 3 (intsA L2) ∧ L2.length = bn ∧ L2.getD b 0 = F ∧ (∀ c, c < k + 1 → (h.br c).up = (b : Int) → ∀ j, Desc h c j → L2.getD j 0 = fl h pump j) ∧ (∀ j, j < bn → L2.getD j 0 = L.getD j 0 ∨ L2.getD j 0 = fl h pump j)) := Lib.hid ⟨HR.out.1.2.1, hL2, hE2.len, by
                rcases hE2.old b hb with h2 | h2
                · rw [h2]; exact HW.out.2.2.2.1
                · rw [h2, HF.out], fun c hc hu j hd => by
                rcases Nat.lt_succ_iff_lt_or_eq.1 hc with hc | hc
                · have h1 := HW.out.2.2.2.2.1 c hc hu j hd
                  rcases hE2.old j (by rw [← HBN.out]; exact desc_lt OK.out hd (by rw [HBN.out]; omega)) with h2 | h2
                  · rw [h2]; exact h1
                  · exact h2
                · subst hc; exact hE2.new j hd, fun j hj => by
                rcases hE2.old j hj with h2 | h2
                · rcases HW.out.2.2.2.2.2 j hj with h3 | h3
                  · left; rw [h2]; exact h3
                  · right; rw [h2]; exact h3
                · exact Or.inr h2⟩
              clear HR hL2 hE2
              simp [putAll]
              go_wp2
              go_roundw
              case rel => exact ⟨k + 1, by omega, by go_num, L2, HN⟩
              case measure => simp [intOf]; omega
          · have dS : decide (0 < S) = false := decide_eq_false hS
            have HN := HNO (Or.inr hS)
            clear HNO
            go_wp2
            go_roundw
            case rel => exact ⟨k + 1, by omega, by go_num, L1, Lib.hid ⟨HW.out.1.alloc _, HW.out.2.1.alloc _, HW.out.2.2.1, HW.out.2.2.2.1, HN.out, HW.out.2.2.2.2.2⟩⟩
            case measure => simp [intOf]; omega
        · have db : (up == (b : Int)) = false := beq_eq_false_iff_ne.2 hu
          have HN := HNO (Or.inl hu)
          clear HNO
          go_wp2
          go_roundw
          case rel => exact ⟨k + 1, by omega, by go_num, L1, Lib.hid ⟨HW.out.1.alloc _, HW.out.2.1.alloc _, HW.out.2.2.1, HW.out.2.2.2.1, HN.out, HW.out.2.2.2.2.2⟩⟩
          case measure => simp [intOf]; omega
      · obtain rfl : bn = k := by omega
        go_wp2
        refine bodyPost_end (v := .tuple #[]) (results_none rfl _ _ _) rfl ?_
        exact ⟨rfl, HW.out.1, L1, HW.out.2.1, HW.out.2.2.1, fun j hd => by
          cases hd with
          | refl => rw [HW.out.2.2.2.1, HF.out]
          | step hc hu' hd' => exact HW.out.2.2.2.2.1 _ (by rw [← HBN.out]; exact hc) hu' j hd', HW.out.2.2.2.2.2⟩
end Go.Proofs.Ytldbciflpnhfpaa
