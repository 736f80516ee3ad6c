/- law06: BankHolds. -/
import Derived.Test.YtmgondelhgbbjaaBkWb
import Derived.Test.YtmgondelhgbbjaaBkWd
import Derived.Test.YtmgondelhgbbjaaBkWe

set_option linter.unusedSimpArgs false
set_option linter.unusedVariables false
namespace Go.Proofs.Ytmgondelhgbbjaa
open Go.RowKit

theorem row_rd0 {α : Type} {f : α → List Value} {size n : Nat} {W : World} {n₀ : Nat} {T : TypeId} {A : Option Addr} {c : Nat} {xs : List α} (hf : ∀ x, (f x).length = size) (hl : xs.length = n) (h : W.ownsRow n₀ T size (.slice A n c) n (xs.flatMap f)) : Rd W W.heap.size size f A n xs := by
  subst hl
  obtain ⟨A', c', b, e, hw, _⟩ := RowW.of_own h
  cases e
  refine ⟨rfl, fun hn => ?_⟩
  have hx0 : xs[0]? = some xs[0] := List.getElem?_eq_getElem hn
  obtain ⟨hA, hb, _, _⟩ := hw.at_ hf hx0
  refine ⟨b, 0, hA, hb, fun i x hx j u hu => ?_⟩
  rw [Nat.zero_add]
  exact (hw.at_ hf hx).2.2.2 j u hu
theorem hold_dark {bs : List Bat} {gs : List Gen} {power : Int} {ts : List Int} (ok : ArgsOk bs gs (holdL power)) (h : Fl gs ts) : (runOf bs gs (holdL power) ts).dark = -1 ∨ (0 ≤ (runOf bs gs (holdL power) ts).dark ∧ (runOf bs gs (holdL power) ts).dark < 4000) := by
  obtain ⟨pre, hr⟩ := run_end ok h.ok
  have hl : (secsL (holdL power)).length = 4000 := by rw [holdL_secs, List.length_replicate]
  rcases hr.dark with ⟨h1, _⟩ | ⟨h1, h2⟩
  · exact Or.inl h1
  · refine Or.inr ?_
    have h1 : (runOf bs gs (holdL power) ts).dark = (pre.length : Int) := h1
    omega
theorem hold_bd {bs : List Bat} {gs : List Gen} {power b m : Int} (ok : ArgsOk bs gs (holdL power)) (h : HoldEnd bs gs power b m) : 0 ≤ m ∧ m ≤ 4000 := by
  obtain ⟨fs, h1, h2, h3, rfl⟩ := h
  rcases hold_dark ok h1 with h4 | h4
  · rw [if_pos h4]; omega
  · rw [if_neg (by omega)]; omega
/-- A list of fails within the bound holds as long as Hold says. -/
theorem hold_list {bs : List Bat} {gs : List Gen} {power b m : Int} {ts : List Int} (ok : ArgsOk bs gs (holdL power)) (h : HoldEnd bs gs power b m) (ht : Fl gs ts) (hs : sumI ts ≤ b) : (runOf bs gs (holdL power) ts).dark = -1 ∨ m ≤ (runOf bs gs (holdL power) ts).dark := by
  obtain ⟨fs, h1, h2, h3, rfl⟩ := h
  have h4 := h3 ts ht hs
  unfold earlierP at h4
  rcases hold_dark ok ht with h5 | h5
  · exact Or.inl h5
  · right
    rcases hold_dark ok h1 with h6 | h6
    · exfalso; exact h4 ⟨by omega, Or.inl h6⟩
    · rw [if_neg (by omega)]
      omega
/-- The worst list's end is what Hold says. -/
theorem hold_worst {bs : List Bat} {gs : List Gen} {power b m : Int} {ts : List Int} (ok : ArgsOk bs gs (holdL power)) (h : HoldEnd bs gs power b m) (ht : Fl gs ts) (hs : sumI ts ≤ b) (hw : ∀ us, Fl gs us → sumI us ≤ b → ¬ earlierP (runOf bs gs (holdL power) us).dark (runOf bs gs (holdL power) ts).dark) :
    ((runOf bs gs (holdL power) ts).dark = -1 ∧ m = 4000) ∨ (0 ≤ (runOf bs gs (holdL power) ts).dark ∧ (runOf bs gs (holdL power) ts).dark < 4000 ∧ m = (runOf bs gs (holdL power) ts).dark) := by
  have h0 := hold_list ok h ht hs
  obtain ⟨fs, h1, h2, h3, rfl⟩ := h
  have h4 := hw fs h1 h2
  unfold earlierP at h4
  rcases hold_dark ok ht with h5 | h5
  · left
    refine ⟨h5, ?_⟩
    rcases hold_dark ok h1 with h6 | h6
    · rw [if_pos h6]
    · exfalso; exact h4 ⟨by omega, Or.inl h5⟩
  · right
    refine ⟨h5.1, h5.2, ?_⟩
    rcases hold_dark ok h1 with h6 | h6
    · rw [if_pos h6] at h0 ⊢
      omega
    · rw [if_neg (by omega)] at h0 ⊢
      omega
theorem Rd.cut {α : Type} {w : World} {B size n k m : Nat} {f : α → List Value} {A : Option Addr} {l : List α} (h : Rd w B size f A n l) (hm : m = min n k) : Rd w B size f A m (l.take k) := by
  subst hm
  refine ⟨by rw [List.length_take, h.1, Nat.min_comm], fun hn => ?_⟩
  obtain ⟨b, off, hA, hb, hx⟩ := h.2 (by omega)
  refine ⟨b, off, hA, hb, fun i x hi => hx i x ?_⟩
  rw [List.getElem?_take] at hi
  split at hi
  · exact hi
  · cases hi
theorem holds_args {bs : List Bat} {gs : List Gen} {p : Int} (h1 : bs.length ≤ 4) (h2 : gs.length ≤ 3) (h3 : ∀ b ∈ bs, MdBat b) (h4 : ∀ g ∈ gs, MdGen g) (hp : 0 ≤ p ∧ p ≤ 255) : ArgsOk bs (gs.take 2) (holdL p) := by
  refine ⟨by omega, by rw [List.length_take]; omega, by simp [holdL], fun b hb => (h3 b hb).1, fun g hg => (h4 g (List.mem_of_mem_take hg)).1, fun s hs => ?_, by rw [holdL_secs, List.length_replicate]; decide⟩
  simp only [holdL, List.mem_cons, List.mem_nil_iff, or_false] at hs
  rcases hs with rfl | rfl
  · exact ⟨by dsimp only; omega, by dsimp only; omega, hp.1, by dsimp only; omega⟩
  · exact ⟨by dsimp only; omega, by dsimp only; omega, hp.1, by dsimp only; omega⟩
theorem cnt_two {gs : List Gen} (h : ∀ g ∈ gs, MdGen g) (hl : gs.length ≤ 2) : 0 ≤ cntL gs ∧ cntL gs ≤ 25 := by
  match gs, hl, h with
  | [], _, _ => exact ⟨by decide, by decide⟩
  | [a], _, h =>
    have h1 := h a (by simp)
    have := h1.2.2
    have := h1.1.t0
    simp only [cntL]
    omega
  | [a, b], _, h =>
    have h1 := h a (by simp)
    have h2 := h b (by simp)
    have ha := h1.2.2
    have ha0 := h1.1.t0
    have hb := h2.2.2
    have hb0 := h2.1.t0
    simp only [cntL]
    have k1 : 0 ≤ (a.tries + 1) * (b.tries + 1) := Int.mul_nonneg (by omega) (by omega)
    have k2 : (a.tries + 1) * (b.tries + 1) ≤ 5 * (b.tries + 1) := Int.mul_le_mul_of_nonneg_right (by omega) (by omega)
    simp only [Int.mul_one, Int.one_mul]
    omega
theorem run_b0 (bA gA lA fA : Option Addr) (bn bc gn gc ln lc fc : Nat) (bs : List Bat) (gs : List Gen) (l : List Spn) (fs : List Int) (hbn : bn = bs.length) (hgn : gn = gs.length) (w : World)
    (hin : ArgsIn w w.heap.size bA bn bs gA gn gs lA ln l) (hf : Rd w w.heap.size 1 encI fA gn fs) (ok : ArgsOk bs gs l) (okf : FailsOk gs fs) :
    Calls Try.prog 15 #[.agg #[.slice bA bn bc, .slice gA gn gc], .slice lA ln lc, .slice fA gn fc] w fun e w' => ∃ g1 g2, e = .returned (.tuple #[.agg #[.int .i64 (runOf bs gs l fs).dark, .slice (some ⟨g1, 0, none⟩) bn bn, .slice (some ⟨g2, 0, none⟩) gn gn, .int .i64 (runOf bs gs l fs).served], .int .i64 0]) ∧ Below w.heap.size w w' ∧ ResIn w.heap.size w' g1 g2 (runOf bs gs l fs) := by
  refine (run_any bA gA lA fA bn bc gn gc ln lc gn fc bs gs l fs w hin hf ok okf).mono ?_
  rintro e w' ⟨g1, g2, rfl, h1, h2⟩
  have hl := runOf_len (bs := bs) (l := l) (Fl.of_ok okf)
  unfold runOf at hl ⊢
  refine ⟨g1, g2, ?_, h1, h2⟩
  unfold resVal
  rw [hl.1, hl.2, hbn, hgn]
theorem sumI_bd0 {M : Int} {l : List Int} (hM : 0 ≤ M) (h : ∀ x ∈ l, 0 ≤ x ∧ x ≤ M) : 0 ≤ sumI l ∧ sumI l ≤ M * l.length := by
  induction l with
  | nil => simp [sumI]
  | cons x l ih =>
    have h1 := h x (List.mem_cons_self ..)
    have h2 := ih (fun z hz => h z (List.mem_cons_of_mem _ hz))
    simp only [sumI, List.length_cons]
    rw [show M * ((l.length + 1 : Nat) : Int) = M * (l.length : Int) + M by rw [Int.natCast_add, Int.mul_add]; simp]
    omega
theorem sumI_bds0 {M : Int} {l : List Int} {N : Nat} (hM : 0 ≤ M) (h : ∀ x ∈ l, 0 ≤ x ∧ x ≤ M) (hl : l.length ≤ N) (k : Nat) : 0 ≤ sumI (l.take k) ∧ sumI (l.take k) ≤ M * N := by
  have h1 := sumI_bd0 hM (l := l.take k) (fun x hx => h x (List.mem_of_mem_take hx))
  have h2 : (l.take k).length ≤ N := by rw [List.length_take]; omega
  have h3 : M * ((l.take k).length : Int) ≤ M * (N : Int) := Int.mul_le_mul_of_nonneg_left (by omega) hM
  omega
set_option maxRecDepth 100000 in
set_option maxHeartbeats 4000000 in
theorem holds_any (A1 A2 : Option Addr) (n1 c1 n2 c2 : Nat) (l1 l2 : List Int) (pw mo : Int) (w : World) (h1 : Rd w w.heap.size 1 encU A1 n1 l1) (h2 : Rd w w.heap.size 1 encU A2 n2 l2) (u1 : U8s l1) (u2 : U8s l2) (z1 : n1 ≤ 9223372036854775807) (z2 : n2 ≤ 9223372036854775807) (hp : 0 ≤ pw ∧ pw ≤ 255) (hm : 0 ≤ mo ∧ mo ≤ 255) :
    Calls Try.prog 7 #[.slice A1 n1 c1, .slice A2 n2 c2, .int .u8 pw, .int .u8 mo] w fun e w' => e = .returned (.bool true) ∧ Below w.heap.size w w' := by
  have H1 := Lib.hid h1
  have H2 := Lib.hid h2
  have KM := Lib.hid (fun W h => Made_any A1 n1 c1 l1 W h u1 z1)
  have KF0 := Lib.hid (fun (bA gA : Option Addr) (bn bc gn gc : Nat) (gs : List Gen) W hg h hgn ok => Failed_any bA gA A2 bn bc gn gc n2 c2 gs l2 W hg h u2 hgn ok z2)
  have KA := Lib.hid awake_any
  have hmb := tmod_bd (n := 9) hm.1 (by omega)
  have v1 : IntKind.i64.wrap pw = pw := IntWalk.i64_in _ (by omega)
  have v2 : IntKind.i64.wrap (mo.tmod 9) = mo.tmod 9 := IntWalk.i64_in _ (by omega)
  have HP := Lib.hid hp
  have HMB := Lib.hid hmb
  clear h1 h2 u1 u2 z1 z2 hp hm hmb
  go_enter Try.func7, Try.ntmps7
  go_wp2_with fail
  refine (KM.out _ H1.out).mono ?_
  rintro e w0 ⟨bA, bc, gA, gc, bs, gs, rfl, hB0, hrb, hrg, hb4, hg3, hbs, hgs⟩
  obtain ⟨bn, hbn⟩ : ∃ z, z = bs.length := ⟨_, rfl⟩
  obtain ⟨gn, hgn⟩ : ∃ z, z = gs.length := ⟨_, rfl⟩
  rw [← hbn] at hrb ⊢
  rw [← hgn] at hrg ⊢
  obtain ⟨gn2, hgn2⟩ : ∃ z, z = min gn 2 := ⟨_, rfl⟩
  have KF := Lib.hid (fun W hg h => KF0.out bA gA bn bc gn2 gc (gs.take 2) W hg h (by omega) (fun g hg => (hgs g (List.mem_of_mem_take hg)).1))
  have HMD := Lib.hid (And.intro hb4 (And.intro hg3 (And.intro hbs hgs)))
  have HBN := Lib.hid hbn
  have HGN := Lib.hid hgn
  have HGN2 : Hid (gn2 = (gs.take 2).length) := Lib.hid (by rw [List.length_take, hgn2, hgn, Nat.min_comm])
  have HL0 := Lib.hid hB0
  have HCAP : Hid (gn ≤ gc ∧ (gA = none → gn = 0 ∧ gc = 0)) := Lib.hid (by
    rcases hrg.2 with ⟨e, h0⟩ | ⟨g, cap, cur, e, hb, hgb, k1, k2, k3, k4⟩
    · cases e; exact ⟨by omega, fun _ => ⟨h0, rfl⟩⟩
    · cases e; exact ⟨by omega, fun h => by cases h⟩)
  have hgn3 : gn ≤ 3 := by omega
  have HB0 := Lib.hid (row_rd0 Bat.enc_len hbn.symm hrb)
  have HG0 := Lib.hid (row_rd0 Gen.enc_len hgn.symm hrg)
  clear hrb hrg hb4 hg3 hbs hgs hbn hgn hB0 KF0 KM H1
  have hcap := HCAP.out.1
  have q1 : (0 : Int) ≤ ((gn2 : Nat) : Int) := by omega
  have q2 : ((gn2 : Nat) : Int) ≤ ((gc : Nat) : Int) := by omega
  have hmn : min (gn : Int) 2 = (gn2 : Int) := by omega
  go_wp2_with fail
  · obtain rfl : gn2 = 2 := by omega
    have HGL : Hid ((gs.take 2).length = 2) := Lib.hid (by rw [← HGN2.out])
    have OKH := Lib.hid (holds_args HMD.out.1 HMD.out.2.1 HMD.out.2.2.1 HMD.out.2.2.2 HP.out)
    have HCN := Lib.hid (cnt_two (gs := gs.take 2) (fun g hg => HMD.out.2.2.2 g (List.mem_of_mem_take hg)) (by rw [List.length_take]; omega))
    have KH := Lib.hid (fun W h1 h2 => Hold_any bA gA bn bc 2 gc bs (gs.take 2) pw (mo.tmod 9) W h1 h2 OKH.out HMB.out.1 (by have := HMB.out.2; omega) (by have := HCN.out; omega))
    have KW := Lib.hid (fun (lA : Option Addr) W h => Worst_any bA gA lA bn bc 2 gc 2 2 bs (gs.take 2) (holdL pw) (mo.tmod 9) W h OKH.out HMB.out.1 (by have := HMB.out.2; omega) (by rw [holdL_secs, List.length_replicate]; have := HCN.out; omega))
    obtain ⟨bp, hbp⟩ : ∃ z, z = w0.heap.size := ⟨_, rfl⟩
    obtain ⟨w1, hw1⟩ : ∃ z, z = w0.alloc (.cells #[.slice bA bn bc, .slice gA 2 gc] 26) := ⟨_, rfl⟩
    have hi1 : Below w0.heap.size w0 w1 := by rw [hw1]; exact (Below.refl _ _).alloc (Nat.le_refl _) _
    have hk1 : Blk w1 bp 26 #[.slice bA bn bc, .slice gA 2 gc] := by rw [hw1, hbp]; exact heap_alloc_new w0 _
    have hb1 := HB0.out.next hi1
    have hg1 : Rd w1 w1.heap.size 5 Gen.enc gA 2 (gs.take 2) := (HG0.out.next hi1).cut (by omega)
    have hlow1 := below3 HL0.out hi1 (Nat.le_refl _)
    rw [← hw1, ← hbp]
    refine (KH.out _ hb1 hg1).mono ?_
    rintro e w2 ⟨m, rfl, hB2, hend⟩
    have hmb := hold_bd OKH.out hend
    have HEND := Lib.hid hend
    have HBK := Lib.hid (hk1.below hB2 hk1.lt)
    have HB := Lib.hid (hb1.next hB2)
    have HG := Lib.hid (hg1.next hB2)
    have HL2 := Lib.hid (below3 hlow1 hB2 (Nat.le_refl _))
    have H2' := Lib.hid ((H2.out.next hlow1).next hB2)
    clear hw1 hbp hi1 hk1 hb1 hg1 hlow1 hB2 hend HB0 HG0 HL0 H2 q1 q2 hmn hgn2
    have c0 : w2.cell? ⟨bp, 0, none⟩ = some (.slice bA bn bc) := HBK.out.cell 0
    have c1 : w2.cell? ⟨bp, 1, none⟩ = some (.slice gA 2 gc) := HBK.out.cell 1
    have zz := HBK.out.lt
    have e1 : decide (m < 0) = false := decide_eq_false (by omega)
    have e2 : decide (4000 < m) = false := decide_eq_false (by omega)
    go_wp2_with fail
    refine (KF.out _ HG.out H2'.out).mono ?_
    rintro e w3 ⟨fA, fc, fs, rfl, hB3, hrf, hfs⟩
    have HFS := Lib.hid hfs
    have HF := Lib.hid (row_rd0 (f := encI) (fun _ => rfl) (by rw [hfs.1]; exact HGL.out) hrf)
    have HFL := Lib.hid (hfs.bd (fun g hg => OKH.out.gen g hg))
    have HFN : Hid (fs.length = 2) := Lib.hid (by rw [hfs.1]; exact HGL.out)
    have HBK3 := Lib.hid (HBK.out.below hB3 HBK.out.lt)
    have HB3 := Lib.hid (HB.out.next hB3)
    have HG3 := Lib.hid (HG.out.next hB3)
    have HL3 := Lib.hid (below3 HL2.out hB3 (Nat.le_refl _))
    clear c0 c1 zz hB3 hrf hfs HBK HB HG HL2 H2' KF KH
    go_wp2
    go_loopw [13, 56] (fun sm i wr => ∃ k : Nat, k ≤ 2 ∧ i = .int .i64 k ∧ sm = .int .i64 (sumI (fs.take k)) ∧ Hid (Below w3.heap.size w3 wr)) (fun _ i _ => 2 - (intOf i).toNat)
    case atStart => exact ⟨0, by omega, rfl, rfl, Lib.hid (Below.refl _ _)⟩
    case round =>
      obtain ⟨k, hk, rfl, rfl, hB⟩ := hrel
      have hzw := hB.out.size
      by_cases hlt : k < 2
      · obtain ⟨fb, fo, y, e3, hfb, hy, hcy⟩ := (HF.out.below hB.out).at_ hlt
        have y0 := cellI hcy
        have hyb := HFL.out y (List.mem_of_getElem? hy)
        have hsb := sumI_bds0 (M := 5) (N := 3) (by omega) HFL.out (by rw [HFN.out]; omega) k
        obtain ⟨S, hS⟩ : ∃ z, z = sumI (fs.take k) := ⟨_, rfl⟩
        have HSN : Hid (S + y = sumI (fs.take (k + 1))) := Lib.hid (by rw [hS, sumI_take hy])
        have wv : IntKind.i64.wrap (S + y) = S + y := IntWalk.i64_in _ (by omega)
        have hk0 : (0 : Int) ≤ (k : Int) := by omega
        have hkn : (k : Int) < ((2 : Nat) : Int) := by omega
        have zf : fb < wr.heap.size := by omega
        rw [← hS]
        subst e3
        clear hy hcy hyb hsb hS
        go_wp2
        go_roundw
        case rel => exact ⟨k + 1, by omega, by go_num, by rw [HSN.out], hB⟩
        case measure => simp [intOf]; omega
      · have hke : k = 2 := by omega
        have HSU : Hid (sumI (fs.take k) = sumI fs) := Lib.hid (by rw [List.take_of_length_le (by rw [HFN.out]; omega)])
        rw [HSU.out, hke]
        obtain ⟨S, hS⟩ : ∃ z, z = sumI fs := ⟨_, rfl⟩
        rw [← hS]
        have HBKr := Lib.hid (HBK3.out.below hB.out HBK3.out.lt)
        have c0 : wr.cell? ⟨bp, 0, none⟩ = some (.slice bA bn bc) := HBKr.out.cell 0
        have c1 : wr.cell? ⟨bp, 1, none⟩ = some (.slice gA 2 gc) := HBKr.out.cell 1
        have zz := HBKr.out.lt
        obtain ⟨w4, hw4⟩ : ∃ z, z = wr.alloc (.cells #[.int .i64 3600, .int .i64 pw, .int .i64 400, .int .i64 pw] 37) := ⟨_, rfl⟩
        have hi4 : Below wr.heap.size wr w4 := by rw [hw4]; exact (Below.refl _ _).alloc (Nat.le_refl _) _
        have hrl : Rd w4 w4.heap.size 2 Spn.enc (some ⟨wr.heap.size, 0, none⟩) 2 (holdL pw) := by
          rw [hw4, World.size_alloc]
          exact Rd.lit wr 37 Spn.enc 2 (holdL pw) (fun _ _ => rfl)
        have hin4 : ArgsIn w4 w4.heap.size bA bn bs gA 2 (gs.take 2) (some ⟨wr.heap.size, 0, none⟩) 2 (holdL pw) := ⟨((HB3.out.below hB.out).more hB.out.size).next hi4, ((HG3.out.below hB.out).more hB.out.size).next hi4, hrl⟩
        have hf4 : Rd w4 w4.heap.size 1 encI fA 2 fs := ((HF.out.below hB.out).more hB.out.size).next hi4
        have hlow4 : Below w.heap.size w w4 := below3 (below3 HL3.out hB.out (Nat.le_refl _)) hi4 (Nat.le_refl _)
        have HBK4 := Lib.hid (HBKr.out.below hi4 HBKr.out.lt)
        have HIN4 := Lib.hid hin4
        have HF4 := Lib.hid hf4
        have HL4 := Lib.hid hlow4
        by_cases hsl : S ≤ mo.tmod 9
        · have hlst := hold_list OKH.out HEND.out (Fl.of_ok HFS.out) (by rw [← hS]; exact hsl)
          have KR := Lib.hid (run_b0 bA gA (some ⟨wr.heap.size, 0, none⟩) fA bn bc 2 gc 2 2 fc bs (gs.take 2) (holdL pw) fs HBN.out HGL.out.symm w4 HIN4.out HF4.out OKH.out HFS.out)
          have hsd : decide (S ≤ mo.tmod 9) = true := decide_eq_true hsl
          obtain ⟨R, hR⟩ : ∃ z, z = (runOf bs (gs.take 2) (holdL pw) fs).dark := ⟨_, rfl⟩
          obtain ⟨rs, hrs⟩ : ∃ z, z = (runOf bs (gs.take 2) (holdL pw) fs).served := ⟨_, rfl⟩
          rw [← hR] at hlst KR
          rw [← hrs] at KR
          clear hR hrs hS hin4 hf4 hrl hlow4 hi4 HSU hke hlt hk
          go_wp2_with fail
          rw [← hw4]
          refine KR.out.mono ?_
          rintro e w5 ⟨g1, g2, rfl, hB5, _⟩
          have HBK5 := Lib.hid (HBK4.out.below hB5 HBK4.out.lt)
          have HIN5 := Lib.hid (HIN4.out.next hB5)
          have HL5 := Lib.hid (below3 HL4.out hB5 (Nat.le_refl _))
          clear c0 c1 zz hB5 hw4 HBK4 HIN4 HF4 HL4 KR
          have c0 : w5.cell? ⟨bp, 0, none⟩ = some (.slice bA bn bc) := HBK5.out.cell 0
          have c1 : w5.cell? ⟨bp, 1, none⟩ = some (.slice gA 2 gc) := HBK5.out.cell 1
          have zz := HBK5.out.lt
          have hi6 : ∀ o, Below w5.heap.size w5 (w5.alloc o) := fun o => (Below.refl _ _).alloc (Nat.le_refl _) _
          rcases hlst with rfl | hlst
          · go_wp2_with fail
            refine (KW.out _ _ (HIN5.out.next (hi6 _))).mono ?_
            rintro e w8 ⟨xA, xc, us, k1, k2, rfl, hwo⟩
            obtain ⟨hB8, _, _, hfl, hsm, hall⟩ := hwo
            have HL8 := Lib.hid (below3 (below3 HL5.out (hi6 _) (Nat.le_refl _)) hB8 (Nat.le_refl _))
            have hcs := hold_worst OKH.out HEND.out hfl hsm hall
            obtain ⟨D, hD⟩ : ∃ z, z = (runOf bs (gs.take 2) (holdL pw) us).dark := ⟨_, rfl⟩
            obtain ⟨sv, hsv⟩ : ∃ z, z = (runOf bs (gs.take 2) (holdL pw) us).served := ⟨_, rfl⟩
            rw [← hD] at hcs ⊢
            rw [← hsv]
            clear hB8 hfl hsm hall hD hsv HEND
            rcases hcs with ⟨rfl, rfl⟩ | ⟨hd1, hd2, rfl⟩
            · go_wp2_with fail
              refine (KA.out _).mono ?_
              rintro e w9 ⟨rfl, hB9⟩
              have HL9 := Lib.hid (below3 (HL8.out.alloc (by have := HL8.out.size; omega) _) hB9 (Nat.le_refl _))
              clear hB9
              go_wp2_with fail
              go_ret
              exact ⟨rfl, HL9.out⟩
            · have hq1 : (m == 4000) = false := beq_eq_false_iff_ne.2 (by omega)
              have hq2 : decide (m < 0) = false := decide_eq_false (by omega)
              go_wp2_with fail
              refine (KA.out _).mono ?_
              rintro e w9 ⟨rfl, hB9⟩
              have HL9 := Lib.hid (below3 (HL8.out.alloc (by have := HL8.out.size; omega) _) hB9 (Nat.le_refl _))
              clear hB9
              go_wp2_with fail
              go_ret
              exact ⟨rfl, HL9.out⟩
          · have e3 : decide (R < m) = false := decide_eq_false (by omega)
            have e4 : decide (0 ≤ R) = true := decide_eq_true (by omega)
            go_wp2_with fail
            refine (KW.out _ _ (HIN5.out.next (hi6 _))).mono ?_
            rintro e w8 ⟨xA, xc, us, k1, k2, rfl, hwo⟩
            obtain ⟨hB8, _, _, hfl, hsm, hall⟩ := hwo
            have HL8 := Lib.hid (below3 (below3 HL5.out (hi6 _) (Nat.le_refl _)) hB8 (Nat.le_refl _))
            have hcs := hold_worst OKH.out HEND.out hfl hsm hall
            obtain ⟨D, hD⟩ : ∃ z, z = (runOf bs (gs.take 2) (holdL pw) us).dark := ⟨_, rfl⟩
            obtain ⟨sv, hsv⟩ : ∃ z, z = (runOf bs (gs.take 2) (holdL pw) us).served := ⟨_, rfl⟩
            rw [← hD] at hcs ⊢
            rw [← hsv]
            clear hB8 hfl hsm hall hD hsv HEND
            rcases hcs with ⟨rfl, rfl⟩ | ⟨hd1, hd2, rfl⟩
            · go_wp2_with fail
              refine (KA.out _).mono ?_
              rintro e w9 ⟨rfl, hB9⟩
              have HL9 := Lib.hid (below3 (HL8.out.alloc (by have := HL8.out.size; omega) _) hB9 (Nat.le_refl _))
              clear hB9
              go_wp2_with fail
              go_ret
              exact ⟨rfl, HL9.out⟩
            · have hq1 : (m == 4000) = false := beq_eq_false_iff_ne.2 (by omega)
              have hq2 : decide (m < 0) = false := decide_eq_false (by omega)
              go_wp2_with fail
              refine (KA.out _).mono ?_
              rintro e w9 ⟨rfl, hB9⟩
              have HL9 := Lib.hid (below3 (HL8.out.alloc (by have := HL8.out.size; omega) _) hB9 (Nat.le_refl _))
              clear hB9
              go_wp2_with fail
              go_ret
              exact ⟨rfl, HL9.out⟩
        · have hsd : decide (S ≤ mo.tmod 9) = false := decide_eq_false hsl
          clear hS hin4 hf4 hrl hlow4 hi4 HSU hke hlt hk
          go_wp2_with fail
          rw [← hw4]
          refine (KW.out _ _ (HIN4.out)).mono ?_
          rintro e w8 ⟨xA, xc, us, k1, k2, rfl, hwo⟩
          obtain ⟨hB8, _, _, hfl, hsm, hall⟩ := hwo
          have HL8 := Lib.hid (below3 HL4.out hB8 (Nat.le_refl _))
          have hcs := hold_worst OKH.out HEND.out hfl hsm hall
          obtain ⟨D, hD⟩ : ∃ z, z = (runOf bs (gs.take 2) (holdL pw) us).dark := ⟨_, rfl⟩
          obtain ⟨sv, hsv⟩ : ∃ z, z = (runOf bs (gs.take 2) (holdL pw) us).served := ⟨_, rfl⟩
          rw [← hD] at hcs ⊢
          rw [← hsv]
          clear hB8 hfl hsm hall hD hsv HEND
          rcases hcs with ⟨rfl, rfl⟩ | ⟨hd1, hd2, rfl⟩
          · go_wp2_with fail
            refine (KA.out _).mono ?_
            rintro e w9 ⟨rfl, hB9⟩
            have HL9 := Lib.hid (below3 (HL8.out.alloc (by have := HL8.out.size; omega) _) hB9 (Nat.le_refl _))
            clear hB9
            go_wp2_with fail
            go_ret
            exact ⟨rfl, HL9.out⟩
          · have hq1 : (m == 4000) = false := beq_eq_false_iff_ne.2 (by omega)
            have hq2 : decide (m < 0) = false := decide_eq_false (by omega)
            go_wp2_with fail
            refine (KA.out _).mono ?_
            rintro e w9 ⟨rfl, hB9⟩
            have HL9 := Lib.hid (below3 (HL8.out.alloc (by have := HL8.out.size; omega) _) hB9 (Nat.le_refl _))
            clear hB9
            go_wp2_with fail
            go_ret
            exact ⟨rfl, HL9.out⟩
  · obtain rfl : gn2 = gn := by omega
    have HGL : Hid ((gs.take 2).length = gn2) := Lib.hid (by rw [← HGN2.out])
    have OKH := Lib.hid (holds_args HMD.out.1 HMD.out.2.1 HMD.out.2.2.1 HMD.out.2.2.2 HP.out)
    have HCN := Lib.hid (cnt_two (gs := gs.take 2) (fun g hg => HMD.out.2.2.2 g (List.mem_of_mem_take hg)) (by rw [List.length_take]; omega))
    have KH := Lib.hid (fun W h1 h2 => Hold_any bA gA bn bc gn2 gc bs (gs.take 2) pw (mo.tmod 9) W h1 h2 OKH.out HMB.out.1 (by have := HMB.out.2; omega) (by have := HCN.out; omega))
    have KW := Lib.hid (fun (lA : Option Addr) W h => Worst_any bA gA lA bn bc gn2 gc 2 2 bs (gs.take 2) (holdL pw) (mo.tmod 9) W h OKH.out HMB.out.1 (by have := HMB.out.2; omega) (by rw [holdL_secs, List.length_replicate]; have := HCN.out; omega))
    obtain ⟨bp, hbp⟩ : ∃ z, z = w0.heap.size := ⟨_, rfl⟩
    obtain ⟨w1, hw1⟩ : ∃ z, z = w0.alloc (.cells #[.slice bA bn bc, .slice gA gn2 gc] 26) := ⟨_, rfl⟩
    have hi1 : Below w0.heap.size w0 w1 := by rw [hw1]; exact (Below.refl _ _).alloc (Nat.le_refl _) _
    have hk1 : Blk w1 bp 26 #[.slice bA bn bc, .slice gA gn2 gc] := by rw [hw1, hbp]; exact heap_alloc_new w0 _
    have hb1 := HB0.out.next hi1
    have hg1 : Rd w1 w1.heap.size 5 Gen.enc gA gn2 (gs.take 2) := (HG0.out.next hi1).cut (by omega)
    have hlow1 := below3 HL0.out hi1 (Nat.le_refl _)
    rw [← hw1, ← hbp]
    refine (KH.out _ hb1 hg1).mono ?_
    rintro e w2 ⟨m, rfl, hB2, hend⟩
    have hmb := hold_bd OKH.out hend
    have HEND := Lib.hid hend
    have HBK := Lib.hid (hk1.below hB2 hk1.lt)
    have HB := Lib.hid (hb1.next hB2)
    have HG := Lib.hid (hg1.next hB2)
    have HL2 := Lib.hid (below3 hlow1 hB2 (Nat.le_refl _))
    have H2' := Lib.hid ((H2.out.next hlow1).next hB2)
    clear hw1 hbp hi1 hk1 hb1 hg1 hlow1 hB2 hend HB0 HG0 HL0 H2 q1 q2 hmn hgn2
    have c0 : w2.cell? ⟨bp, 0, none⟩ = some (.slice bA bn bc) := HBK.out.cell 0
    have c1 : w2.cell? ⟨bp, 1, none⟩ = some (.slice gA gn2 gc) := HBK.out.cell 1
    have zz := HBK.out.lt
    have e1 : decide (m < 0) = false := decide_eq_false (by omega)
    have e2 : decide (4000 < m) = false := decide_eq_false (by omega)
    go_wp2_with fail
    refine (KF.out _ HG.out H2'.out).mono ?_
    rintro e w3 ⟨fA, fc, fs, rfl, hB3, hrf, hfs⟩
    have HFS := Lib.hid hfs
    have HF := Lib.hid (row_rd0 (f := encI) (fun _ => rfl) (by rw [hfs.1]; exact HGL.out) hrf)
    have HFL := Lib.hid (hfs.bd (fun g hg => OKH.out.gen g hg))
    have HFN : Hid (fs.length = gn2) := Lib.hid (by rw [hfs.1]; exact HGL.out)
    have HBK3 := Lib.hid (HBK.out.below hB3 HBK.out.lt)
    have HB3 := Lib.hid (HB.out.next hB3)
    have HG3 := Lib.hid (HG.out.next hB3)
    have HL3 := Lib.hid (below3 HL2.out hB3 (Nat.le_refl _))
    clear c0 c1 zz hB3 hrf hfs HBK HB HG HL2 H2' KF KH
    go_wp2
    go_loopw [13, 56] (fun sm i wr => ∃ k : Nat, k ≤ gn2 ∧ i = .int .i64 k ∧ sm = .int .i64 (sumI (fs.take k)) ∧ Hid (Below w3.heap.size w3 wr)) (fun _ i _ => gn2 - (intOf i).toNat)
    case atStart => exact ⟨0, by omega, rfl, rfl, Lib.hid (Below.refl _ _)⟩
    case round =>
      obtain ⟨k, hk, rfl, rfl, hB⟩ := hrel
      have hzw := hB.out.size
      by_cases hlt : k < gn2
      · obtain ⟨fb, fo, y, e3, hfb, hy, hcy⟩ := (HF.out.below hB.out).at_ hlt
        have y0 := cellI hcy
        have hyb := HFL.out y (List.mem_of_getElem? hy)
        have hsb := sumI_bds0 (M := 5) (N := 3) (by omega) HFL.out (by rw [HFN.out]; omega) k
        obtain ⟨S, hS⟩ : ∃ z, z = sumI (fs.take k) := ⟨_, rfl⟩
        have HSN : Hid (S + y = sumI (fs.take (k + 1))) := Lib.hid (by rw [hS, sumI_take hy])
        have wv : IntKind.i64.wrap (S + y) = S + y := IntWalk.i64_in _ (by omega)
        have hk0 : (0 : Int) ≤ (k : Int) := by omega
        have hkn : (k : Int) < ((gn2 : Nat) : Int) := by omega
        have zf : fb < wr.heap.size := by omega
        rw [← hS]
        subst e3
        clear hy hcy hyb hsb hS
        go_wp2
        go_roundw
        case rel => exact ⟨k + 1, by omega, by go_num, by rw [HSN.out], hB⟩
        case measure => simp [intOf]; omega
      · have hke : k = gn2 := by omega
        have HSU : Hid (sumI (fs.take k) = sumI fs) := Lib.hid (by rw [List.take_of_length_le (by rw [HFN.out]; omega)])
        rw [HSU.out, hke]
        obtain ⟨S, hS⟩ : ∃ z, z = sumI fs := ⟨_, rfl⟩
        rw [← hS]
        have HBKr := Lib.hid (HBK3.out.below hB.out HBK3.out.lt)
        have c0 : wr.cell? ⟨bp, 0, none⟩ = some (.slice bA bn bc) := HBKr.out.cell 0
        have c1 : wr.cell? ⟨bp, 1, none⟩ = some (.slice gA gn2 gc) := HBKr.out.cell 1
        have zz := HBKr.out.lt
        obtain ⟨w4, hw4⟩ : ∃ z, z = wr.alloc (.cells #[.int .i64 3600, .int .i64 pw, .int .i64 400, .int .i64 pw] 37) := ⟨_, rfl⟩
        have hi4 : Below wr.heap.size wr w4 := by rw [hw4]; exact (Below.refl _ _).alloc (Nat.le_refl _) _
        have hrl : Rd w4 w4.heap.size 2 Spn.enc (some ⟨wr.heap.size, 0, none⟩) 2 (holdL pw) := by
          rw [hw4, World.size_alloc]
          exact Rd.lit wr 37 Spn.enc 2 (holdL pw) (fun _ _ => rfl)
        have hin4 : ArgsIn w4 w4.heap.size bA bn bs gA gn2 (gs.take 2) (some ⟨wr.heap.size, 0, none⟩) 2 (holdL pw) := ⟨((HB3.out.below hB.out).more hB.out.size).next hi4, ((HG3.out.below hB.out).more hB.out.size).next hi4, hrl⟩
        have hf4 : Rd w4 w4.heap.size 1 encI fA gn2 fs := ((HF.out.below hB.out).more hB.out.size).next hi4
        have hlow4 : Below w.heap.size w w4 := below3 (below3 HL3.out hB.out (Nat.le_refl _)) hi4 (Nat.le_refl _)
        have HBK4 := Lib.hid (HBKr.out.below hi4 HBKr.out.lt)
        have HIN4 := Lib.hid hin4
        have HF4 := Lib.hid hf4
        have HL4 := Lib.hid hlow4
        by_cases hsl : S ≤ mo.tmod 9
        · have hlst := hold_list OKH.out HEND.out (Fl.of_ok HFS.out) (by rw [← hS]; exact hsl)
          have KR := Lib.hid (run_b0 bA gA (some ⟨wr.heap.size, 0, none⟩) fA bn bc gn2 gc 2 2 fc bs (gs.take 2) (holdL pw) fs HBN.out HGL.out.symm w4 HIN4.out HF4.out OKH.out HFS.out)
          have hsd : decide (S ≤ mo.tmod 9) = true := decide_eq_true hsl
          obtain ⟨R, hR⟩ : ∃ z, z = (runOf bs (gs.take 2) (holdL pw) fs).dark := ⟨_, rfl⟩
          obtain ⟨rs, hrs⟩ : ∃ z, z = (runOf bs (gs.take 2) (holdL pw) fs).served := ⟨_, rfl⟩
          rw [← hR] at hlst KR
          rw [← hrs] at KR
          clear hR hrs hS hin4 hf4 hrl hlow4 hi4 HSU hke hlt hk
          go_wp2_with fail
          rw [← hw4]
          refine KR.out.mono ?_
          rintro e w5 ⟨g1, g2, rfl, hB5, _⟩
          have HBK5 := Lib.hid (HBK4.out.below hB5 HBK4.out.lt)
          have HIN5 := Lib.hid (HIN4.out.next hB5)
          have HL5 := Lib.hid (below3 HL4.out hB5 (Nat.le_refl _))
          clear c0 c1 zz hB5 hw4 HBK4 HIN4 HF4 HL4 KR
          have c0 : w5.cell? ⟨bp, 0, none⟩ = some (.slice bA bn bc) := HBK5.out.cell 0
          have c1 : w5.cell? ⟨bp, 1, none⟩ = some (.slice gA gn2 gc) := HBK5.out.cell 1
          have zz := HBK5.out.lt
          have hi6 : ∀ o, Below w5.heap.size w5 (w5.alloc o) := fun o => (Below.refl _ _).alloc (Nat.le_refl _) _
          rcases hlst with rfl | hlst
          · go_wp2_with fail
            refine (KW.out _ _ (HIN5.out.next (hi6 _))).mono ?_
            rintro e w8 ⟨xA, xc, us, k1, k2, rfl, hwo⟩
            obtain ⟨hB8, _, _, hfl, hsm, hall⟩ := hwo
            have HL8 := Lib.hid (below3 (below3 HL5.out (hi6 _) (Nat.le_refl _)) hB8 (Nat.le_refl _))
            have hcs := hold_worst OKH.out HEND.out hfl hsm hall
            obtain ⟨D, hD⟩ : ∃ z, z = (runOf bs (gs.take 2) (holdL pw) us).dark := ⟨_, rfl⟩
            obtain ⟨sv, hsv⟩ : ∃ z, z = (runOf bs (gs.take 2) (holdL pw) us).served := ⟨_, rfl⟩
            rw [← hD] at hcs ⊢
            rw [← hsv]
            clear hB8 hfl hsm hall hD hsv HEND
            rcases hcs with ⟨rfl, rfl⟩ | ⟨hd1, hd2, rfl⟩
            · go_wp2_with fail
              refine (KA.out _).mono ?_
              rintro e w9 ⟨rfl, hB9⟩
              have HL9 := Lib.hid (below3 (HL8.out.alloc (by have := HL8.out.size; omega) _) hB9 (Nat.le_refl _))
              clear hB9
              go_wp2_with fail
              go_ret
              exact ⟨rfl, HL9.out⟩
            · have hq1 : (m == 4000) = false := beq_eq_false_iff_ne.2 (by omega)
              have hq2 : decide (m < 0) = false := decide_eq_false (by omega)
              go_wp2_with fail
              refine (KA.out _).mono ?_
              rintro e w9 ⟨rfl, hB9⟩
              have HL9 := Lib.hid (below3 (HL8.out.alloc (by have := HL8.out.size; omega) _) hB9 (Nat.le_refl _))
              clear hB9
              go_wp2_with fail
              go_ret
              exact ⟨rfl, HL9.out⟩
          · have e3 : decide (R < m) = false := decide_eq_false (by omega)
            have e4 : decide (0 ≤ R) = true := decide_eq_true (by omega)
            go_wp2_with fail
            refine (KW.out _ _ (HIN5.out.next (hi6 _))).mono ?_
            rintro e w8 ⟨xA, xc, us, k1, k2, rfl, hwo⟩
            obtain ⟨hB8, _, _, hfl, hsm, hall⟩ := hwo
            have HL8 := Lib.hid (below3 (below3 HL5.out (hi6 _) (Nat.le_refl _)) hB8 (Nat.le_refl _))
            have hcs := hold_worst OKH.out HEND.out hfl hsm hall
            obtain ⟨D, hD⟩ : ∃ z, z = (runOf bs (gs.take 2) (holdL pw) us).dark := ⟨_, rfl⟩
            obtain ⟨sv, hsv⟩ : ∃ z, z = (runOf bs (gs.take 2) (holdL pw) us).served := ⟨_, rfl⟩
            rw [← hD] at hcs ⊢
            rw [← hsv]
            clear hB8 hfl hsm hall hD hsv HEND
            rcases hcs with ⟨rfl, rfl⟩ | ⟨hd1, hd2, rfl⟩
            · go_wp2_with fail
              refine (KA.out _).mono ?_
              rintro e w9 ⟨rfl, hB9⟩
              have HL9 := Lib.hid (below3 (HL8.out.alloc (by have := HL8.out.size; omega) _) hB9 (Nat.le_refl _))
              clear hB9
              go_wp2_with fail
              go_ret
              exact ⟨rfl, HL9.out⟩
            · have hq1 : (m == 4000) = false := beq_eq_false_iff_ne.2 (by omega)
              have hq2 : decide (m < 0) = false := decide_eq_false (by omega)
              go_wp2_with fail
              refine (KA.out _).mono ?_
              rintro e w9 ⟨rfl, hB9⟩
              have HL9 := Lib.hid (below3 (HL8.out.alloc (by have := HL8.out.size; omega) _) hB9 (Nat.le_refl _))
              clear hB9
              go_wp2_with fail
              go_ret
              exact ⟨rfl, HL9.out⟩
        · have hsd : decide (S ≤ mo.tmod 9) = false := decide_eq_false hsl
          clear hS hin4 hf4 hrl hlow4 hi4 HSU hke hlt hk
          go_wp2_with fail
          rw [← hw4]
          refine (KW.out _ _ (HIN4.out)).mono ?_
          rintro e w8 ⟨xA, xc, us, k1, k2, rfl, hwo⟩
          obtain ⟨hB8, _, _, hfl, hsm, hall⟩ := hwo
          have HL8 := Lib.hid (below3 HL4.out hB8 (Nat.le_refl _))
          have hcs := hold_worst OKH.out HEND.out hfl hsm hall
          obtain ⟨D, hD⟩ : ∃ z, z = (runOf bs (gs.take 2) (holdL pw) us).dark := ⟨_, rfl⟩
          obtain ⟨sv, hsv⟩ : ∃ z, z = (runOf bs (gs.take 2) (holdL pw) us).served := ⟨_, rfl⟩
          rw [← hD] at hcs ⊢
          rw [← hsv]
          clear hB8 hfl hsm hall hD hsv HEND
          rcases hcs with ⟨rfl, rfl⟩ | ⟨hd1, hd2, rfl⟩
          · go_wp2_with fail
            refine (KA.out _).mono ?_
            rintro e w9 ⟨rfl, hB9⟩
            have HL9 := Lib.hid (below3 (HL8.out.alloc (by have := HL8.out.size; omega) _) hB9 (Nat.le_refl _))
            clear hB9
            go_wp2_with fail
            go_ret
            exact ⟨rfl, HL9.out⟩
          · have hq1 : (m == 4000) = false := beq_eq_false_iff_ne.2 (by omega)
            have hq2 : decide (m < 0) = false := decide_eq_false (by omega)
            go_wp2_with fail
            refine (KA.out _).mono ?_
            rintro e w9 ⟨rfl, hB9⟩
            have HL9 := Lib.hid (below3 (HL8.out.alloc (by have := HL8.out.size; omega) _) hB9 (Nat.le_refl _))
            clear hB9
            go_wp2_with fail
            go_ret
            exact ⟨rfl, HL9.out⟩
end Go.Proofs.Ytmgondelhgbbjaa
