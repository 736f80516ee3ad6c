/- law06: BankNoWorse. -/
import Derived.Test.YtmgondelhgbbjaaBkWb
import Derived.Test.YtmgondelhgbbjaaBkWd
import Derived.Test.YtmgondelhgbbjaaBkNb
import Derived.Test.YtmgondelhgbbjaaBkHl
import Derived.Test.YtmgondelhgbbjaaBkWf

set_option linter.unusedSimpArgs false
set_option linter.unusedVariables false
namespace Go.Proofs.Ytmgondelhgbbjaa
open Go.RowKit

set_option maxRecDepth 100000 in
set_option maxHeartbeats 4000000 in
theorem noworse_any (A1 A2 A3 : Option Addr) (n1 c1 n2 c2 n3 c3 : Nat) (l1 l2 l3 : List Int) (mo : Int) (w : World) (h1 : Rd w w.heap.size 1 encU A1 n1 l1) (h2 : Rd w w.heap.size 1 encU A2 n2 l2) (h3 : Rd w w.heap.size 1 encU A3 n3 l3) (u1 : U8s l1) (u2 : U8s l2) (u3 : U8s l3) (z1 : n1 ≤ 9223372036854775807) (z2 : n2 ≤ 9223372036854775807) (z3 : n3 ≤ 9223372036854775807) (hm : 0 ≤ mo ∧ mo ≤ 255) :
    Calls Try.prog 5 #[.slice A1 n1 c1, .slice A2 n2 c2, .slice A3 n3 c3, .int .u8 mo] w fun e w' => e = .returned (.bool true) ∧ Below w.heap.size w w' := by
  have H1 := Lib.hid h1
  have H2 := Lib.hid h2
  have H3 := Lib.hid h3
  have KM := Lib.hid (fun W h => Made_any A1 n1 c1 l1 W h u1 z1)
  have KL := Lib.hid (fun W h => Loaded_any A2 n2 c2 l2 W h u2 (by omega))
  have KF0 := Lib.hid (fun (bA gA : Option Addr) (bn bc gn gc : Nat) (gs : List Gen) W hg h hgn ok => Failed_any bA gA A3 bn bc gn gc n3 c3 gs l3 W hg h u3 hgn ok (by omega))
  have KA := Lib.hid awake_any
  have hmb := tmod_bd (n := 16) hm.1 (by omega)
  have v2 : IntKind.i64.wrap (mo.tmod 16) = mo.tmod 16 := IntWalk.i64_in _ (by omega)
  have HMB := Lib.hid hmb
  clear h1 h2 h3 u1 u2 u3 z1 z2 z3 hm hmb
  go_enter Try.func5, Try.ntmps5
  go_wp2_with fail
  refine (KM.out _ H1.out).mono ?_
  rintro e w0 ⟨bA, bc, gA, gc, bs, gs, rfl, hB0, hrb, hrg, hb4, hg3, hbs, hgs⟩
  obtain ⟨bn, hbn⟩ : ∃ z, z = bs.length := ⟨_, rfl⟩
  obtain ⟨gn, hgn⟩ : ∃ z, z = gs.length := ⟨_, rfl⟩
  rw [← hbn] at hrb ⊢
  rw [← hgn] at hrg ⊢
  have KF := Lib.hid (fun W hg h => KF0.out bA gA bn bc gn gc gs W hg h (by omega) (fun g hg => (hgs g hg).1))
  have HRB := Lib.hid hrb
  have HRG := Lib.hid hrg
  have HMD := Lib.hid (And.intro hb4 (And.intro hg3 (And.intro hbs hgs)))
  have HBN := Lib.hid hbn
  have HGN := Lib.hid hgn
  have HL0 := Lib.hid hB0
  have hgn3 : gn ≤ 3 := by omega
  clear hrb hrg hb4 hg3 hbs hgs hbn hgn hB0 KF0 KM
  go_wp2_with fail
  obtain ⟨bp, hbp⟩ : ∃ z, z = w0.heap.size := ⟨_, rfl⟩
  obtain ⟨w1, hw1⟩ : ∃ z, z = w0.alloc (.cells #[.slice bA bn bc, .slice gA gn gc] 26) := ⟨_, rfl⟩
  have hi1 : Below w0.heap.size w0 w1 := by rw [hw1]; exact (Below.refl _ _).alloc (Nat.le_refl _) _
  have HBP : Hid (Blk w1 bp 26 #[.slice bA bn bc, .slice gA gn gc]) := Lib.hid (by rw [hw1, hbp]; exact heap_alloc_new w0 _)
  rw [← hw1, ← hbp]
  have HL1 := Lib.hid (below3 HL0.out hi1 (Nat.le_refl _))
  have HB := Lib.hid (row_rd Bat.enc_len HBN.out.symm (row_next HRB.out hi1))
  have HG := Lib.hid (row_rd Gen.enc_len HGN.out.symm (row_next HRG.out hi1))
  have H3 := Lib.hid (H3.out.next HL1.out)
  have H2 := Lib.hid (H2.out.next HL1.out)
  clear hw1 hbp hi1 HRB HRG HL0 H1
  refine (KL.out _ H2.out).mono ?_
  rintro e w2 ⟨lA, lc, L, rfl, hB2, hrl, hL1, hL2⟩
  have OKA := Lib.hid (law_args HMD.out.1 HMD.out.2.1 HMD.out.2.2.1 HMD.out.2.2.2 hL1 hL2)
  have HFT := Lib.hid (cnt_fits (bs := bs) HMD.out.2.1 HMD.out.2.2.2 (by have := secs_len hL2; omega : (secsL L).length ≤ 640))
  have HIN : Hid (ArgsIn w2 w2.heap.size bA bn bs gA gn gs lA L.length L) := Lib.hid ⟨HB.out.next hB2, HG.out.next hB2, row_rd Spn.enc_len rfl hrl⟩
  have H3 := Lib.hid (H3.out.next hB2)
  have HBP2 := Lib.hid (HBP.out.below hB2 HBP.out.lt)
  have HL2 := Lib.hid (below3 HL1.out hB2 (Nat.le_refl _))
  have KW := Lib.hid (fun W h => Worst_any bA gA lA bn bc gn gc L.length lc bs gs L (mo.tmod 16) W h OKA.out HMB.out.1 (by have := HMB.out.2; omega) HFT.out)
  have KLe := Lib.hid (fun W h => Least_any bA gA lA bn bc gn gc L.length lc bs gs L (mo.tmod 16) W h OKA.out HMB.out.1 (by have := HMB.out.2; omega) HFT.out)
  have KR := Lib.hid (fun (fA : Option Addr) (fc : Nat) (fs : List Int) W h1 h2 okf => run_b bA gA lA fA bn bc gn gc L.length lc fc bs gs L fs HBN.out HGN.out W h1 h2 OKA.out okf)
  have KK := Lib.hid (fun (fA : Option Addr) (fc : Nat) (fs : List Int) W h1 h2 okf => Lack_any bA gA lA fA bn bc gn gc L.length lc gn fc bs gs L fs W h1 h2 OKA.out okf)
  clear hrl hL1 hL2 hB2 HBP HL1 HB HG H2 KL
  have c0 : w2.cell? ⟨bp, 0, none⟩ = some (.slice bA bn bc) := HBP2.out.cell 0
  have c1 : w2.cell? ⟨bp, 1, none⟩ = some (.slice gA gn gc) := HBP2.out.cell 1
  have zz := HBP2.out.lt
  go_wp2_with fail
  refine (KW.out _ HIN.out).mono ?_
  rintro e w3 ⟨xA, xc, us, k1, k2, rfl, hwo⟩
  obtain ⟨hB3, hur, hres, hfl, hsm, hall⟩ := hwo
  obtain ⟨P, hP⟩ : ∃ z, z = runOf bs gs L us := ⟨_, rfl⟩
  have KRu := Lib.hid (fun (fA : Option Addr) (fc : Nat) W h1 h2 => KR.out fA fc us W h1 h2 hfl.ok)
  rw [← hP] at KRu hres hall ⊢
  have HUS := Lib.hid (row_rdI hur)
  have HFL := Lib.hid (And.intro hfl (And.intro hsm hall))
  have HPL : Hid (P.cs.length = bn) := Lib.hid (by rw [hP, (runOf_len hfl).1, HBN.out])
  have HUB := Lib.hid (hfl.ok.bd OKA.out.gen)
  have HPD : Hid (-1 ≤ P.dark) := Lib.hid (by rw [hP]; exact (runOf_dark bs gs L us).1)
  have HUL : Hid (us.length = gn) := Lib.hid (by rw [hfl.length, HGN.out])
  have HRI := Lib.hid hres.e
  have HIN3 := Lib.hid (HIN.out.next hB3)
  have H3 := Lib.hid (H3.out.next hB3)
  have HBP3 := Lib.hid (HBP2.out.below hB3 HBP2.out.lt)
  have HL3 := Lib.hid (below3 HL2.out hB3 (Nat.le_refl _))
  clear c0 c1 zz hB3 hur hres hfl hsm hall hP HIN HBP2 HL2 KW
  have c0 : w3.cell? ⟨bp, 0, none⟩ = some (.slice bA bn bc) := HBP3.out.cell 0
  have c1 : w3.cell? ⟨bp, 1, none⟩ = some (.slice gA gn gc) := HBP3.out.cell 1
  have zz := HBP3.out.lt
  go_wp2_with fail
  obtain ⟨xb, hxb⟩ : ∃ z, z = w3.heap.size := ⟨_, rfl⟩
  obtain ⟨w4, hw4⟩ : ∃ z, z = w3.alloc (.cells #[.int .i64 P.dark, .slice (some ⟨k1, 0, none⟩) bn bn, .slice (some ⟨k2, 0, none⟩) gn gn, .int .i64 P.served] 40) := ⟨_, rfl⟩
  have hi4 : Below w3.heap.size w3 w4 := by rw [hw4]; exact (Below.refl _ _).alloc (Nat.le_refl _) _
  have hk4 : Blk w4 xb 40 #[.int .i64 P.dark, .slice (some ⟨k1, 0, none⟩) bn bn, .slice (some ⟨k2, 0, none⟩) gn gn, .int .i64 P.served] := by rw [hw4, hxb]; exact heap_alloc_new w3 _
  rw [← hw4, ← hxb]
  refine (KLe.out _ (HIN3.out.next hi4)).mono ?_
  rintro e w5 ⟨m, rfl, hB5, hle⟩
  have HLE := Lib.hid hle
  have h35 : Below w3.heap.size w3 w5 := below3 hi4 hB5 (Nat.le_refl _)
  have HXB := Lib.hid (hk4.below hB5 hk4.lt)
  have HUS5 := Lib.hid (HUS.out.next h35)
  have HRI5 := Lib.hid (HRI.out.below h35 HRI.out.lt)
  have HIN5 := Lib.hid (HIN3.out.next h35)
  have H3 := Lib.hid (H3.out.next h35)
  have HBP5 := Lib.hid (HBP3.out.below h35 HBP3.out.lt)
  have HL5 := Lib.hid (below3 HL3.out h35 (Nat.le_refl _))
  clear c0 c1 zz hw4 hxb hi4 hk4 hB5 hle h35 HUS HRI HIN3 HBP3 HL3 KLe
  go_wp2
  go_loopw [17, 65] (fun sm i wr => ∃ k : Nat, k ≤ gn ∧ i = .int .i64 k ∧ sm = .int .i64 (sumI (us.take k)) ∧ Hid (Below w5.heap.size w5 wr)) (fun _ i _ => gn - (intOf i).toNat)
  case atStart => exact ⟨0, by omega, rfl, rfl, Lib.hid (Below.refl _ _)⟩
  case round =>
    obtain ⟨k, hk, rfl, rfl, hB⟩ := hrel
    have hzw := hB.out.size
    by_cases hlt : k < gn
    · obtain ⟨fb, fo, y, e3, hfb, hy, hcy⟩ := (HUS5.out.below hB.out).at_ hlt
      have y0 := cellI hcy
      have hyb := HUB.out y (List.mem_of_getElem? hy)
      have hsb := sumI_bds (M := 5) (N := 3) (by omega) HUB.out (by rw [HUL.out]; omega) k
      obtain ⟨S, hS⟩ : ∃ z, z = sumI (us.take k) := ⟨_, rfl⟩
      have HSN : Hid (S + y = sumI (us.take (k + 1))) := Lib.hid (by rw [hS, sumI_take hy])
      have wv : IntKind.i64.wrap (S + y) = S + y := IntWalk.i64_in _ (by omega)
      have hk0 : (0 : Int) ≤ (k : Int) := by omega
      have hkn : (k : Int) < (gn : Int) := by omega
      have zf : fb < wr.heap.size := by omega
      rw [← hS]
      subst e3
      clear hy hcy hyb hsb hS
      go_wp2
      go_roundw
      case rel => exact ⟨k + 1, by omega, by go_num, by rw [HSN.out], hB⟩
      case measure => simp [intOf]; omega
    · have hke : k = gn := by omega
      have HSU : Hid (sumI (us.take k) = sumI us) := Lib.hid (by rw [List.take_of_length_le (by rw [HUL.out]; omega)])
      rw [HSU.out, hke]
      obtain ⟨S, hS⟩ : ∃ z, z = sumI us := ⟨_, rfl⟩
      rw [← hS]
      have hsn : decide (mo.tmod 16 < S) = false := decide_eq_false (by have := HFL.out.2.1; omega)
      have HBP6 := Lib.hid (HBP5.out.below hB.out HBP5.out.lt)
      have c0 : wr.cell? ⟨bp, 0, none⟩ = some (.slice bA bn bc) := HBP6.out.cell 0
      have c1 : wr.cell? ⟨bp, 1, none⟩ = some (.slice gA gn gc) := HBP6.out.cell 1
      have zz := HBP6.out.lt
      have HIN6 : Hid (ArgsIn wr wr.heap.size bA bn bs gA gn gs lA L.length L) := Lib.hid ⟨(HIN5.out.bat.below hB.out).more hB.out.size, (HIN5.out.gen.below hB.out).more hB.out.size, (HIN5.out.load.below hB.out).more hB.out.size⟩
      have HUS6 : Hid (Rd wr wr.heap.size 1 encI xA gn us) := Lib.hid ((HUS5.out.below hB.out).more hB.out.size)
      have H36 : Hid (Rd wr wr.heap.size 1 encU A3 n3 l3) := Lib.hid ((H3.out.below hB.out).more hB.out.size)
      have HRI6 := Lib.hid (HRI5.out.below hB.out HRI5.out.lt)
      have HXB6 := Lib.hid (HXB.out.below hB.out HXB.out.lt)
      have HL6 := Lib.hid (below3 HL5.out hB.out (Nat.le_refl _))
      clear hS hke hlt hk HSU hzw HIN5 HUS5 H3 HRI5 HXB HL5 HBP5 hB
      go_wp2_with fail
      refine (KRu.out _ _ _ HIN6.out HUS6.out).mono ?_
      rintro e w7 ⟨g1, g2, rfl, hB7, hre7⟩
      have HIN7 := Lib.hid (HIN6.out.next hB7)
      have H37 := Lib.hid (H36.out.next hB7)
      have HBP7 := Lib.hid (HBP6.out.below hB7 HBP6.out.lt)
      have HXB7 := Lib.hid (HXB6.out.below hB7 HXB6.out.lt)
      have HRI7 := Lib.hid (HRI6.out.below hB7 HRI6.out.lt)
      have HRN7 := Lib.hid hre7.e
      have HL7 := Lib.hid (below3 HL6.out hB7 (Nat.le_refl _))
      clear c0 c1 zz hB7 hre7 HIN6 HUS6 H36 HBP6 HXB6 HRI6 HL6 KRu
      have d0 : w7.cell? ⟨xb, 0, none⟩ = some (.int .i64 P.dark) := HXB7.out.cell 0
      have d1 : w7.cell? ⟨xb, 1, none⟩ = some (.slice (some ⟨k1, 0, none⟩) bn bn) := HXB7.out.cell 1
      have zx := HXB7.out.lt
      have hi8 : ∀ o, Below w7.heap.size w7 (w7.alloc o) := fun o => (Below.refl _ _).alloc (Nat.le_refl _) _
      have hsame : sameL (energies P) (energies P) = true := decide_eq_true rfl
      have HEN : Hid ((energies P).length = bn) := Lib.hid (by unfold energies; rw [List.length_map]; exact HPL.out)
      have KE : Hid (∀ W, Below w7.heap.size w7 W → Calls Try.prog 22 #[.slice (some ⟨g1, 0, none⟩) bn bn, .slice (some ⟨k1, 0, none⟩) bn bn] W fun e w' => e = .returned (.bool true) ∧ Below W.heap.size W w') := Lib.hid (fun W hW => by
        have r1 := Blk.rdI HRN7.out
        have r2 := Blk.rdI HRI7.out
        rw [HEN.out] at r1 r2
        have h := Equal_any (some ⟨g1, 0, none⟩) (some ⟨k1, 0, none⟩) bn bn bn bn (energies P) (energies P) W (r1.next hW) (r2.next hW) (by have := HMD.out.1; have := HBN.out; omega) (by have := HMD.out.1; have := HBN.out; omega)
        rw [hsame] at h
        exact h)
      clear hsame
      go_wp2_with fail
      refine (KE.out _ (hi8 _)).mono ?_
      rintro e w8 ⟨rfl, hB8⟩
      have h78 : Below w7.heap.size w7 w8 := below3 (hi8 _) hB8 (Nat.le_refl _)
      have HIN8 := Lib.hid (HIN7.out.next h78)
      have H38 := Lib.hid (H37.out.next h78)
      have HBP8 := Lib.hid (HBP7.out.below h78 HBP7.out.lt)
      have HXB8 := Lib.hid (HXB7.out.below h78 HXB7.out.lt)
      have HL8 := Lib.hid (below3 HL7.out h78 (Nat.le_refl _))
      clear d0 d1 zx hB8 h78 hi8 HIN7 H37 HBP7 HXB7 HRI7 HRN7 HL7 KE
      have c0 : w8.cell? ⟨bp, 0, none⟩ = some (.slice bA bn bc) := HBP8.out.cell 0
      have c1 : w8.cell? ⟨bp, 1, none⟩ = some (.slice gA gn gc) := HBP8.out.cell 1
      have zz := HBP8.out.lt
      go_wp2_with fail
      refine (KF.out _ HIN8.out.gen H38.out).mono ?_
      rintro e w9 ⟨fA, fc, fs, rfl, hB9, hrf, hfs⟩
      have HFS := Lib.hid hfs
      have HF := Lib.hid (row_rd (f := encI) (fun _ => rfl) (by rw [hfs.1, HGN.out]) hrf)
      have HFB := Lib.hid (hfs.bd OKA.out.gen)
      have HFN : Hid (fs.length = gn) := Lib.hid (by rw [hfs.1, HGN.out])
      have HIN9 := Lib.hid (HIN8.out.next hB9)
      have HBP9 := Lib.hid (HBP8.out.below hB9 HBP8.out.lt)
      have HXB9 := Lib.hid (HXB8.out.below hB9 HXB8.out.lt)
      have HL9 := Lib.hid (below3 HL8.out hB9 (Nat.le_refl _))
      clear c0 c1 zz hB9 hrf hfs HIN8 H38 HBP8 HXB8 HL8 hsn
      go_wp2
      go_loopw [17, 107] (fun sm i wr => ∃ k : Nat, k ≤ gn ∧ i = .int .i64 k ∧ sm = .int .i64 (sumI (fs.take k)) ∧ Hid (Below w9.heap.size w9 wr)) (fun _ i _ => gn - (intOf i).toNat)
      case atStart => exact ⟨0, by omega, rfl, rfl, Lib.hid (Below.refl _ _)⟩
      case round =>
        obtain ⟨k, hk, rfl, rfl, hB⟩ := hrel
        have hzw := hB.out.size
        by_cases hlt : k < gn
        · obtain ⟨fb, fo, y, e3, hfb, hy, hcy⟩ := (HF.out.below hB.out).at_ hlt
          have y0 := cellI hcy
          have hyb := HFB.out y (List.mem_of_getElem? hy)
          have hsb := sumI_bds (M := 5) (N := 3) (by omega) HFB.out (by rw [HFN.out]; omega) k
          obtain ⟨S, hS⟩ : ∃ z, z = sumI (fs.take k) := ⟨_, rfl⟩
          have HSN : Hid (S + y = sumI (fs.take (k + 1))) := Lib.hid (by rw [hS, sumI_take hy])
          have wv : IntKind.i64.wrap (S + y) = S + y := IntWalk.i64_in _ (by omega)
          have hk0 : (0 : Int) ≤ (k : Int) := by omega
          have hkn : (k : Int) < (gn : Int) := by omega
          have zf : fb < wr.heap.size := by omega
          rw [← hS]
          subst e3
          clear hy hcy hyb hsb hS
          go_wp2
          go_roundw
          case rel => exact ⟨k + 1, by omega, by go_num, by rw [HSN.out], hB⟩
          case measure => simp [intOf]; omega
        · have hke : k = gn := by omega
          have HSU : Hid (sumI (fs.take k) = sumI fs) := Lib.hid (by rw [List.take_of_length_le (by rw [HFN.out]; omega)])
          rw [HSU.out, hke]
          obtain ⟨S, hS⟩ : ∃ z, z = sumI fs := ⟨_, rfl⟩
          rw [← hS]
          have HLr := Lib.hid (below3 HL9.out hB.out (Nat.le_refl _))
          by_cases hsl : mo.tmod 16 < S
          · have hsd : decide (mo.tmod 16 < S) = true := decide_eq_true hsl
            clear hS hke hlt hk HSU
            go_wp2_with fail
            refine (KA.out _).mono ?_
            rintro e wz ⟨rfl, hBz⟩
            have HLz := Lib.hid (below3 HLr.out hBz (Nat.le_refl _))
            clear hBz
            go_wp2_with fail
            go_ret
            exact ⟨rfl, HLz.out⟩
          · have hsd : decide (mo.tmod 16 < S) = false := decide_eq_false hsl
            have hfs := Fl.of_ok HFS.out
            have hles := HLE.out.1 fs hfs (by omega)
            have hwor := HFL.out.2.2 fs hfs (by omega)
            have hld := lack_dark OKA.out HFS.out
            have hlb := lackOf_bd OKA.out hfs
            have hbdD := runOf_dark bs gs L fs
            have KRf := Lib.hid (fun (fA : Option Addr) (fc : Nat) W h1 h2 => KR.out fA fc fs W h1 h2 HFS.out)
            have KKf : Hid (∀ (fA : Option Addr) (fc : Nat) (W : World), ArgsIn W W.heap.size bA bn bs gA gn gs lA L.length L → Rd W W.heap.size 1 encI fA gn fs → Calls Try.prog 23 #[.agg #[.slice bA bn bc, .slice gA gn gc], .slice lA L.length lc, .slice fA gn fc] W fun e w' => e = .returned (.tuple #[.int .i64 (lackOf bs gs L fs), .int .i64 0]) ∧ Below W.heap.size W w') := Lib.hid (fun fA fc W h1 h2 => KK.out fA fc fs W h1 h2 HFS.out)
            obtain ⟨D, hD⟩ : ∃ z, z = (runOf bs gs L fs).dark := ⟨_, rfl⟩
            obtain ⟨sv, hsv⟩ : ∃ z, z = (runOf bs gs L fs).served := ⟨_, rfl⟩
            obtain ⟨q, hq⟩ : ∃ z, z = lackOf bs gs L fs := ⟨_, rfl⟩
            rw [← hD] at KRf hwor hld hbdD
            rw [← hsv] at KRf
            rw [← hq] at hles hld hlb KKf
            have hlat : laterP D P.dark := by
              unfold earlierP at hwor
              unfold laterP
              have := HPD.out
              omega
            have KT := Lib.hid (fun W => later_yes D P.dark W hlat)
            have hqm : decide (q ≤ m) = true := decide_eq_true hles
            have heq : ((q == 0) == decide (D < 0)) = true := by
              by_cases h0 : q = 0
              · have : D = -1 := hld.1 h0
                subst this h0
                rfl
              · have h1 : ¬ D = -1 := fun h => h0 (hld.2 h)
                have h2 : (q == 0) = false := beq_eq_false_iff_ne.2 h0
                have h3 : decide (D < 0) = false := decide_eq_false (by omega)
                rw [h2, h3]
                rfl
            have hcs : ((q == 0) = true ∧ decide (D < 0) = true) ∨ ((q == 0) = false ∧ decide (D < 0) = false) := by
              revert heq
              cases (q == 0) <;> cases decide (D < 0) <;> simp
            have HBPr := Lib.hid (HBP9.out.below hB.out HBP9.out.lt)
            have HXBr := Lib.hid (HXB9.out.below hB.out HXB9.out.lt)
            have HINr : Hid (ArgsIn wr wr.heap.size bA bn bs gA gn gs lA L.length L) := Lib.hid ⟨(HIN9.out.bat.below hB.out).more hB.out.size, (HIN9.out.gen.below hB.out).more hB.out.size, (HIN9.out.load.below hB.out).more hB.out.size⟩
            have HFr : Hid (Rd wr wr.heap.size 1 encI fA gn fs) := Lib.hid ((HF.out.below hB.out).more hB.out.size)
            have c0 : wr.cell? ⟨bp, 0, none⟩ = some (.slice bA bn bc) := HBPr.out.cell 0
            have c1 : wr.cell? ⟨bp, 1, none⟩ = some (.slice gA gn gc) := HBPr.out.cell 1
            have zz := HBPr.out.lt
            clear hS hke hlt hk HSU hsl hfs hles hwor hld hlb hbdD hD hsv hq hlat heq hzw KR KK HIN9 HF HBP9 HXB9 HL9 hB
            go_wp2_with fail
            refine (KRf.out _ _ _ HINr.out HFr.out).mono ?_
            rintro e wa ⟨g5, g6, rfl, hBa, _⟩
            have HINa := Lib.hid (HINr.out.next hBa)
            have HFa := Lib.hid (HFr.out.next hBa)
            have HBPa := Lib.hid (HBPr.out.below hBa HBPr.out.lt)
            have HXBa := Lib.hid (HXBr.out.below hBa HXBr.out.lt)
            have HLa := Lib.hid (below3 HLr.out hBa (Nat.le_refl _))
            clear c0 c1 zz hBa HINr HFr HBPr HXBr HLr
            have c0 : wa.cell? ⟨bp, 0, none⟩ = some (.slice bA bn bc) := HBPa.out.cell 0
            have c1 : wa.cell? ⟨bp, 1, none⟩ = some (.slice gA gn gc) := HBPa.out.cell 1
            have zz := HBPa.out.lt
            go_wp2_with fail
            obtain ⟨rb, hrb⟩ : ∃ z, z = wa.heap.size := ⟨_, rfl⟩
            obtain ⟨wb, hwb⟩ : ∃ z, z = wa.alloc (.cells #[.int .i64 D, .slice (some ⟨g5, 0, none⟩) bn bn, .slice (some ⟨g6, 0, none⟩) gn gn, .int .i64 sv] 40) := ⟨_, rfl⟩
            have hib : Below wa.heap.size wa wb := by rw [hwb]; exact (Below.refl _ _).alloc (Nat.le_refl _) _
            have hkb : Blk wb rb 40 #[.int .i64 D, .slice (some ⟨g5, 0, none⟩) bn bn, .slice (some ⟨g6, 0, none⟩) gn gn, .int .i64 sv] := by rw [hwb, hrb]; exact heap_alloc_new wa _
            rw [← hwb, ← hrb]
            refine (KKf.out _ _ _ (HINa.out.next hib) (HFa.out.next hib)).mono ?_
            rintro e wc ⟨rfl, hBc⟩
            have hac : Below wa.heap.size wa wc := below3 hib hBc (Nat.le_refl _)
            have HRBc := Lib.hid (hkb.below hBc hkb.lt)
            have HXBc := Lib.hid (HXBa.out.below hac HXBa.out.lt)
            have HLc := Lib.hid (below3 HLa.out hac (Nat.le_refl _))
            clear c0 c1 zz hwb hrb hib hkb hBc hac HINa HFa HBPa HXBa HLa KRf KKf
            have d0 : wc.cell? ⟨rb, 0, none⟩ = some (.int .i64 D) := HRBc.out.cell 0
            have d1 : wc.cell? ⟨xb, 0, none⟩ = some (.int .i64 P.dark) := HXBc.out.cell 0
            have z1 := HRBc.out.lt
            have z2 := HXBc.out.lt
            go_wp2_with fail
            refine (KT.out _).mono ?_
            rintro e wd ⟨rfl, hwd⟩
            rw [hwd]
            rcases hcs with ⟨e1, e2⟩ | ⟨e1, e2⟩
            · go_wp2_with fail
              refine (KA.out _).mono ?_
              rintro e wz ⟨rfl, hBz⟩
              have HLz := Lib.hid (below3 HLc.out hBz (Nat.le_refl _))
              clear hBz
              go_wp2_with fail
              go_ret
              exact ⟨rfl, HLz.out⟩
            · go_wp2_with fail
              refine (KA.out _).mono ?_
              rintro e wz ⟨rfl, hBz⟩
              have HLz := Lib.hid (below3 HLc.out hBz (Nat.le_refl _))
              clear hBz
              go_wp2_with fail
              go_ret
              exact ⟨rfl, HLz.out⟩
end Go.Proofs.Ytmgondelhgbbjaa
