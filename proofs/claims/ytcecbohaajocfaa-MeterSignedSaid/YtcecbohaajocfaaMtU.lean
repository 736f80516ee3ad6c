/- meter: checkSet, Explains, Repair, where all is valid. -/
import Derived.Test.YtcecbohaajocfaaMtR
import Derived.Test.YtcecbohaajocfaaMtL

set_option linter.unusedSimpArgs false
set_option linter.unusedVariables false
namespace Go.Proofs.Ytcecbohaajocfaa
open Go.RowKit

def lstC (set : List Nat) (k : Nat) : Nat := if k = 0 then 0 else set.getD (k - 1) 0 + 1
theorem lstC_le {n : Nat} {set : List Nat} (h : Vc n set) {k : Nat} (hk : k < set.length) : lstC set k ≤ set.getD k 0 := by
  unfold lstC
  split
  · omega
  · have := h.mono (k - 1) k (by omega) hk
    omega
theorem vc_lt {n : Nat} {set : List Nat} (h : Vc n set) : ∀ x ∈ set, x < n := h.pw.2
set_option maxRecDepth 100000 in
set_option maxHeartbeats 2000000 in
theorem hasSet_yes (nA vA aA : Option Addr) (n nc vc an ac : Nat) (set : List Nat) (w : World) (h14 : n ≤ 14) (hv : Vc n set) (hset : Rd w w.heap.size 1 encN aA an set) :
    Calls Try.prog 82 #[.agg #[.slice nA n nc, .slice vA n vc], .slice aA an ac] w fun e w' => e = .returned (.bool true) ∧ Below w.heap.size w w' := by
  have hln : set.length = an := hset.1
  have han : an ≤ 14 := by have := hv.len; omega
  have HS := Lib.hid (And.intro hset hv)
  have HC := Lib.hid (And.intro h14 (And.intro han hln))
  have g1 : w.heap.size < w.heap.size + 1 := by omega
  have wn : IntKind.i64.wrap ((n : Int) - 1) = (n : Int) - 1 := IntWalk.i64_in _ (by omega)
  clear hset hv h14 han hln
  go_enter Try.func82, Try.ntmps82
  go_wp2
  obtain ⟨bx, hbx⟩ : ∃ z, z = w.heap.size := ⟨_, rfl⟩
  obtain ⟨w1, hw1⟩ : ∃ z, z = w.alloc (.cells #[.slice nA n nc, .slice vA n vc] 35) := ⟨_, rfl⟩
  have BX : Hid (Blk w1 bx 35 #[.slice nA n nc, .slice vA n vc]) := Lib.hid (by rw [hw1, hbx]; exact heap_alloc_new w _)
  have B0 : Hid (Below w.heap.size w w1) := Lib.hid (by rw [hw1]; exact (Below.refl _ _).alloc (Nat.le_refl _) _)
  rw [← hw1, ← hbx]
  clear hw1 hbx g1
  go_loopw [5, 10] (fun lv iv wr => ∃ k : Nat, k ≤ an ∧ lv = .int .i64 ((lstC set k : Nat) : Int) ∧ iv = .int .i64 ((k : Nat) : Int) ∧ Hid (Below w1.heap.size w1 wr)) (fun _ iv _ => an - (intOf iv).toNat)
  case atStart => exact ⟨0, Nat.zero_le _, rfl, rfl, Lib.hid (Below.refl _ _)⟩
  case round =>
    obtain ⟨k, hk, rfl, rfl, HW⟩ := hrel
    by_cases hlt : k < an
    · have hk0 : (0 : Int) ≤ (k : Int) := by omega
      have hkn : (k : Int) < (an : Int) := by omega
      have hk9 : (k : Int) ≤ 14 := by have := HC.out; omega
      obtain ⟨b, o, x, eA, hb, hx, hcx⟩ := (HS.out.1.next (below3 B0.out HW.out (Nat.le_refl _))).at_ hlt
      have cx := hcx 0 _ rfl
      rw [Nat.mul_one, Nat.add_zero] at cx
      have hgx : set.getD k 0 = x := by rw [List.getD_eq_getElem?_getD, hx]; rfl
      have hle := lstC_le HS.out.2 (k := k) (by rw [HC.out.2.2]; exact hlt)
      have hxn := vc_lt HS.out.2 x (List.mem_of_getElem? hx)
      rw [hgx] at hle
      obtain ⟨lk, hlk⟩ : ∃ z, z = lstC set k := ⟨_, rfl⟩
      obtain ⟨lk1, hlk1⟩ : ∃ z, z = lstC set (k + 1) := ⟨_, rfl⟩
      have HL1 := Lib.hid hlk1
      rw [← hlk] at hle ⊢
      have K := Lib.hid (fun W => within_yes (n := (x : Int)) (a := (lk : Int)) (b := (n : Int) - 1) (by omega) W)
      have wx : IntKind.i64.wrap ((x : Int) + 1) = (lk1 : Int) := by
        have e : lk1 = x + 1 := by rw [hlk1]; unfold lstC; rw [if_neg (by omega), Nat.add_sub_cancel, hgx]
        rw [show ((lk1 : Nat) : Int) = (x : Int) + 1 by omega]
        exact IntWalk.i64_in _ (by have := HC.out; omega)
      have hbk := BX.out.below HW.out BX.out.lt
      have d0 := hbk.cell 0
      simp only [List.getElem?_toArray, List.getElem?_cons_zero] at d0
      have zd := hbk.lt
      have HLT : Hid (k < an) := Lib.hid hlt
      clear hbk hx hcx hgx hle hxn hlk hlk1 hlt hk
      subst eA
      go_wp2_with fail
      refine (K.out _).mono ?_
      rintro e w5 ⟨rfl, hw9⟩
      obtain rfl := hw9.symm
      go_wp2
      rw [HL1.out]
      go_roundw
      case rel => exact ⟨k + 1, by have := HLT.out; omega, rfl, by go_num, HW⟩
      case measure => have := HLT.out; simp [intOf]; omega
    · obtain rfl : an = k := by omega
      have HF := Lib.hid (below3 B0.out HW.out (Nat.le_refl _))
      go_wp2
      go_ret
      exact ⟨rfl, HF.out⟩
theorem checkSet_ok (c : Ks) (ok : KsOk c) (nA vA aA : Option Addr) (n nc vc an ac : Nat) (set : List Nat) (w : World) (hin : KsIn w w.heap.size n nA vA c) (hv : Vc n set) (hset : Rd w w.heap.size 1 encN aA an set) :
    Calls Try.prog 46 #[.agg #[.slice nA n nc, .slice vA n vc], .slice aA an ac] w fun e w' => e = .returned (.int .i64 0) ∧ Below w.heap.size w w' := by
  have h14 : n ≤ 14 := by rw [← hin.len]; exact ok.n14
  have KC := Lib.hid (fun W (hW : Below w.heap.size w W) => Check_ok nA vA n nc vc c W (hin.next hW) ok)
  have KH := Lib.hid (fun W (hW : Below w.heap.size w W) => hasSet_yes nA vA aA n nc vc an ac set W h14 hv (hset.next hW))
  have g1 : w.heap.size < w.heap.size + 1 := by omega
  clear hin ok hv hset h14
  go_enter Try.func46, Try.ntmps46
  go_wp2_with fail
  obtain ⟨bx, hbx⟩ : ∃ z, z = w.heap.size := ⟨_, rfl⟩
  obtain ⟨w1, hw1⟩ : ∃ z, z = w.alloc (.cells #[.slice nA n nc, .slice vA n vc] 35) := ⟨_, rfl⟩
  have BX : Hid (Blk w1 bx 35 #[.slice nA n nc, .slice vA n vc]) := Lib.hid (by rw [hw1, hbx]; exact heap_alloc_new w _)
  have Sw1 : Hid (w1.heap.size = bx + 1) := Lib.hid (by rw [hw1, hbx, World.size_alloc])
  have Zbx : Hid (w.heap.size ≤ bx) := Lib.hid (by rw [hbx]; exact Nat.le_refl _)
  have hBn : Below w.heap.size w w1 := by rw [hw1]; exact (Below.refl _ _).alloc (Nat.le_refl _) _
  rw [← hw1, ← hbx]
  have B0 : Hid (Below w.heap.size w w1) := Lib.hid hBn
  clear hw1 hbx hBn
  refine (KC.out _ B0.out).mono ?_
  rintro e w2 ⟨rfl, hB⟩
  have B1 : Hid (Below w1.heap.size w1 w2) := Lib.hid hB
  clear hB
  have hbk := BX.out.below B1.out BX.out.lt
  have d0 := hbk.cell 0
  have d1 := hbk.cell 1
  simp only [List.getElem?_toArray, List.getElem?_cons_zero, List.getElem?_cons_succ] at d0 d1
  have zd := hbk.lt
  clear hbk
  clear g1
  go_wp2_with fail
  refine (KH.out _ (below3 B0.out B1.out (Nat.le_refl _))).mono ?_
  rintro e w3 ⟨rfl, hB⟩
  have B2 : Hid (Below w2.heap.size w2 w3) := Lib.hid hB
  clear hB
  have HF := Lib.hid (below3 (below3 B0.out B1.out (Nat.le_refl _)) B2.out (Nat.le_refl _))
  clear d0 d1 zd
  go_wp2
  go_ret
  exact ⟨rfl, HF.out⟩
theorem Explains_any (c : Ks) (ok : KsOk c) (nA vA aA : Option Addr) (n nc vc an ac : Nat) (set : List Nat) (w : World) (hin : KsIn w w.heap.size n nA vA c) (hv : Vc n set) (hset : Rd w w.heap.size 1 encN aA an set) :
    Calls Try.prog 15 #[.agg #[.slice nA n nc, .slice vA n vc], .slice aA an ac] w fun e w' => e = .returned (.tuple #[.bool (canB c set), .int .i64 0]) ∧ Below w.heap.size w w' := by
  have hcn := hin.len
  have h14 : n ≤ 14 := by rw [← hcn]; exact ok.n14
  have han : an ≤ 14 := by have := hv.len; have h2 : set.length = an := hset.1; omega
  have KC := Lib.hid (fun W (hW : Below w.heap.size w W) => checkSet_ok c ok nA vA aA n nc vc an ac set W (hin.next hW) hv (hset.next hW))
  have KF := Lib.hid (fun W (hW : Below w.heap.size w W) => freed_any c ok nA vA aA n nc vc an ac set W (hin.next hW) (hset.next hW) (vc_lt hv) (by omega))
  have KH := Lib.hid (fun (sp : Nat) (S : Nat → Sp) (W : World) (h9 : RowW W sp 138 encS (some ⟨sp, 0, none⟩) (mpS S n)) => canHold_any nA vA n nc vc n sp S W (by omega) h9)
  have HC := Lib.hid hcn
  have g1 : w.heap.size < w.heap.size + 1 := by omega
  clear hin ok hv hset h14 han hcn
  go_enter Try.func15, Try.ntmps15
  go_wp2_with fail
  obtain ⟨bx, hbx⟩ : ∃ z, z = w.heap.size := ⟨_, rfl⟩
  obtain ⟨w1, hw1⟩ : ∃ z, z = w.alloc (.cells #[.slice nA n nc, .slice vA n vc] 35) := ⟨_, rfl⟩
  have BX : Hid (Blk w1 bx 35 #[.slice nA n nc, .slice vA n vc]) := Lib.hid (by rw [hw1, hbx]; exact heap_alloc_new w _)
  have Sw1 : Hid (w1.heap.size = bx + 1) := Lib.hid (by rw [hw1, hbx, World.size_alloc])
  have Zbx : Hid (w.heap.size ≤ bx) := Lib.hid (by rw [hbx]; exact Nat.le_refl _)
  have hBn : Below w.heap.size w w1 := by rw [hw1]; exact (Below.refl _ _).alloc (Nat.le_refl _) _
  rw [← hw1, ← hbx]
  have B0 : Hid (Below w.heap.size w w1) := Lib.hid hBn
  clear hw1 hbx hBn
  refine (KC.out _ B0.out).mono ?_
  rintro e w2 ⟨rfl, hB⟩
  have B1 : Hid (Below w1.heap.size w1 w2) := Lib.hid hB
  clear hB
  have hbk := BX.out.below B1.out BX.out.lt
  have d0 := hbk.cell 0
  have d1 := hbk.cell 1
  simp only [List.getElem?_toArray, List.getElem?_cons_zero, List.getElem?_cons_succ] at d0 d1
  have zd := hbk.lt
  clear hbk
  clear g1
  go_wp2_with fail
  refine (KF.out _ (below3 B0.out B1.out (Nat.le_refl _))).mono ?_
  rintro e w3 ⟨sp, rfl, hsp, hrS, hB⟩
  have C2 := Lib.hid (KH.out sp _ w3 hrS)
  rw [← HC.out, allS_can, HC.out] at C2
  have B2 : Hid (Below w2.heap.size w2 w3) := Lib.hid hB
  clear hB hrS hsp d0 d1 zd
  go_wp2_with fail
  refine (C2.out).mono ?_
  rintro e w4 ⟨rfl, hB⟩
  have B3 : Hid (Below w3.heap.size w3 w4) := Lib.hid hB
  clear hB
  have HF := Lib.hid (below3 (below3 (below3 B0.out B1.out (Nat.le_refl _)) B2.out (Nat.le_refl _)) B3.out (Nat.le_refl _))
  obtain ⟨gd, hgd⟩ : ∃ z, z = canB c set := ⟨_, rfl⟩
  rw [← hgd]
  have HGD := Lib.hid hgd
  clear hgd C2
  go_wp2
  refine bodyPost_ret (v := .tuple #[.bool gd, .int .i64 0]) (by simp [results, Try.results15, go_sem]) rfl ?_
  exact ⟨by rw [HGD.out], HF.out⟩
/-- What Repair returns. -/
def RepV (W : World) (z n : Nat) (c : Ks) (set : List Nat) (v : Value) : Prop := ∃ (vb : Nat) (L : List Int), v = .slice (some ⟨vb, 0, none⟩) n n ∧ Blk W vb 3 (intsA L) ∧ RepK c (narS c (iniS c set)) n L ∧ z ≤ vb
set_option maxRecDepth 100000 in
set_option maxHeartbeats 2000000 in
theorem Repair_any (c : Ks) (ok : KsOk c) (nA vA aA : Option Addr) (n nc vc an ac : Nat) (set : List Nat) (w : World) (hin : KsIn w w.heap.size n nA vA c) (hv : Vc n set) (hset : Rd w w.heap.size 1 encN aA an set) :
    Calls Try.prog 19 #[.agg #[.slice nA n nc, .slice vA n vc], .slice aA an ac] w fun e w' => ((canB c set = true ∧ ∃ v, e = .returned (.tuple #[v, .int .i64 0]) ∧ RepV w' w.heap.size n c set v) ∨ (canB c set = false ∧ e = .returned (.tuple #[.slice none 0 0, .int .i64 4]))) ∧ Below w.heap.size w w' := by
  have hcn := hin.len
  have h14 : n ≤ 14 := by rw [← hcn]; exact ok.n14
  have han : an ≤ 14 := by have := hv.len; have h2 : set.length = an := hset.1; omega
  have KC := Lib.hid (fun W (hW : Below w.heap.size w W) => checkSet_ok c ok nA vA aA n nc vc an ac set W (hin.next hW) hv (hset.next hW))
  have KF := Lib.hid (fun W (hW : Below w.heap.size w W) => freed_any c ok nA vA aA n nc vc an ac set W (hin.next hW) (hset.next hW) (vc_lt hv) (by omega))
  have KH := Lib.hid (fun (sp : Nat) (S : Nat → Sp) (W : World) (h9 : RowW W sp 138 encS (some ⟨sp, 0, none⟩) (mpS S n)) => canHold_any nA vA n nc vc n sp S W (by omega) h9)
  have KR := Lib.hid (fun (sp : Nat) (W : World) (hW : Below w.heap.size w W) (hcan : canB c set = true) (h9 : RowW W sp 138 encS (some ⟨sp, 0, none⟩) (mpS (narS c (iniS c set)) n)) => repaired_any c ok (narS c (iniS c set)) nA vA n nc vc n sp W (fun i hi => by
    have h1 := narS_bd ok (s := iniS c set) (fun j hj => iniS_bd ok set hj) i (by rw [hcn]; exact hi)
    have h2 := canB_iff.1 hcan i (by rw [hcn]; exact hi)
    omega) (hin.next hW) h9)
  have HC := Lib.hid hcn
  have g1 : w.heap.size < w.heap.size + 1 := by omega
  clear hin ok hv hset h14 han hcn
  go_enter Try.func19, Try.ntmps19
  go_wp2_with fail
  obtain ⟨bx, hbx⟩ : ∃ z, z = w.heap.size := ⟨_, rfl⟩
  obtain ⟨w1, hw1⟩ : ∃ z, z = w.alloc (.cells #[.slice nA n nc, .slice vA n vc] 35) := ⟨_, rfl⟩
  have BX : Hid (Blk w1 bx 35 #[.slice nA n nc, .slice vA n vc]) := Lib.hid (by rw [hw1, hbx]; exact heap_alloc_new w _)
  have Sw1 : Hid (w1.heap.size = bx + 1) := Lib.hid (by rw [hw1, hbx, World.size_alloc])
  have Zbx : Hid (w.heap.size ≤ bx) := Lib.hid (by rw [hbx]; exact Nat.le_refl _)
  have hBn : Below w.heap.size w w1 := by rw [hw1]; exact (Below.refl _ _).alloc (Nat.le_refl _) _
  rw [← hw1, ← hbx]
  have B0 : Hid (Below w.heap.size w w1) := Lib.hid hBn
  clear hw1 hbx hBn
  refine (KC.out _ B0.out).mono ?_
  rintro e w2 ⟨rfl, hB⟩
  have B1 : Hid (Below w1.heap.size w1 w2) := Lib.hid hB
  clear hB
  have hbk := BX.out.below B1.out BX.out.lt
  have d0 := hbk.cell 0
  have d1 := hbk.cell 1
  simp only [List.getElem?_toArray, List.getElem?_cons_zero, List.getElem?_cons_succ] at d0 d1
  have zd := hbk.lt
  clear hbk
  clear g1
  go_wp2_with fail
  refine (KF.out _ (below3 B0.out B1.out (Nat.le_refl _))).mono ?_
  rintro e w3 ⟨sp, rfl, hsp, hrS, hB⟩
  have HRS := Lib.hid hrS
  have g1 : w3.heap.size < w3.heap.size + 1 := by omega
  have B2 : Hid (Below w2.heap.size w2 w3) := Lib.hid hB
  clear hB hrS hsp d0 d1 zd
  go_wp2_with fail
  obtain ⟨tb, htb⟩ : ∃ z, z = w3.heap.size := ⟨_, rfl⟩
  obtain ⟨w4, hw4⟩ : ∃ z, z = w3.alloc (.cells #[.slice nA n nc, .slice vA n vc, .slice (some ⟨sp, 0, none⟩) n n] 118) := ⟨_, rfl⟩
  have TB : Hid (Blk w4 tb 118 #[.slice nA n nc, .slice vA n vc, .slice (some ⟨sp, 0, none⟩) n n]) := Lib.hid (by rw [hw4, htb]; exact heap_alloc_new w3 _)
  have Sw4 : Hid (w4.heap.size = tb + 1) := Lib.hid (by rw [hw4, htb, World.size_alloc])
  have Ztb : Hid (w3.heap.size ≤ tb) := Lib.hid (by rw [htb]; exact Nat.le_refl _)
  have hBn : Below w3.heap.size w3 w4 := by rw [hw4]; exact (Below.refl _ _).alloc (Nat.le_refl _) _
  rw [← hw4, ← htb]
  have B3 : Hid (Below w3.heap.size w3 w4) := Lib.hid hBn
  clear hw4 htb hBn
  clear g1
  have C2 := Lib.hid (KH.out sp _ w4 (HRS.out.below9 B3.out))
  rw [← HC.out, allS_can, HC.out] at C2
  refine (C2.out).mono ?_
  rintro e w5 ⟨rfl, hB⟩
  have B4 : Hid (Below w4.heap.size w4 w5) := Lib.hid hB
  clear hB
  have hbk := TB.out.below B4.out TB.out.lt
  have t0 := hbk.cell 0
  have t1 := hbk.cell 1
  have t2 := hbk.cell 2
  simp only [List.getElem?_toArray, List.getElem?_cons_zero, List.getElem?_cons_succ] at t0 t1 t2
  have zt := hbk.lt
  clear hbk
  obtain ⟨gd, hgd⟩ : ∃ z, z = canB c set := ⟨_, rfl⟩
  rw [← hgd]
  have HGD := Lib.hid hgd
  clear hgd C2
  cases gd
  · have HF := Lib.hid (below3 (below3 (below3 (below3 B0.out B1.out (Nat.le_refl _)) B2.out (Nat.le_refl _)) B3.out (Nat.le_refl _)) B4.out (Nat.le_refl _))
    go_wp2
    refine bodyPost_ret (v := .tuple #[.slice none 0 0, .int .i64 4]) (by simp [results, Try.results19, go_sem]) rfl ?_
    exact ⟨.inr ⟨HGD.out.symm, rfl⟩, HF.out⟩
  · have C3 := Lib.hid (KR.out sp w5 (below3 (below3 (below3 (below3 B0.out B1.out (Nat.le_refl _)) B2.out (Nat.le_refl _)) B3.out (Nat.le_refl _)) B4.out (Nat.le_refl _)) HGD.out.symm (HRS.out.below9 (below3 B3.out B4.out (Nat.le_refl _))))
    go_wp2_with fail
    refine C3.out.mono ?_
    rintro e w6 ⟨vb, L, rfl, hbl, hrp, hvb, hB⟩
    have HF : Hid (RepV w6 w.heap.size n c set (.slice (some ⟨vb, 0, none⟩) n n) ∧ Below w.heap.size w w6) := Lib.hid ⟨⟨vb, L, rfl, hbl, hrp, Nat.le_trans (below3 (below3 (below3 (below3 B0.out B1.out (Nat.le_refl _)) B2.out (Nat.le_refl _)) B3.out (Nat.le_refl _)) B4.out (Nat.le_refl _)).size hvb⟩, below3 (below3 (below3 (below3 (below3 B0.out B1.out (Nat.le_refl _)) B2.out (Nat.le_refl _)) B3.out (Nat.le_refl _)) B4.out (Nat.le_refl _)) hB (Nat.le_refl _)⟩
    clear hbl hrp hvb hB C3
    go_wp2
    refine bodyPost_ret (v := .tuple #[.slice (some ⟨vb, 0, none⟩) n n, .int .i64 0]) (by simp [results, Try.results19, go_sem]) rfl ?_
    exact ⟨.inl ⟨HGD.out.symm, _, rfl, HF.out.1⟩, HF.out.2⟩
end Go.Proofs.Ytcecbohaajocfaa
