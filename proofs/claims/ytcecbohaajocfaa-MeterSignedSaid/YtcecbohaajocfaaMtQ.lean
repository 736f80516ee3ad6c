/- meter: bill. -/
import Derived.Test.YtcecbohaajocfaaMtK
import Derived.Laws.ResultCell

set_option linter.unusedSimpArgs false
set_option linter.unusedVariables false
namespace Go.Proofs.Ytcecbohaajocfaa
open Go.RowKit

/-- What the first values use. -/
def engK (l : List Int) : Nat → Int
  | 0 => 0
  | k + 1 => engK l k + l.getD k 0
/-- What they cost. -/
def amtK (price l : List Int) (base : Int) : Nat → Int
  | 0 => base
  | k + 1 => amtK price l base k + l.getD k 0 * price.getD (k % 24) 0
theorem getD_bd {l : List Int} {m : Int} (h : ∀ x ∈ l, 0 ≤ x ∧ x ≤ m) (hm : 0 ≤ m) (k : Nat) : 0 ≤ l.getD k 0 ∧ l.getD k 0 ≤ m := by
  rw [List.getD_eq_getElem?_getD]
  rcases e : l[k]? with _ | x
  · exact ⟨Int.le_refl 0, hm⟩
  · exact h x (List.mem_of_getElem? e)
theorem engK_bd {l : List Int} (h : ∀ x ∈ l, 0 ≤ x ∧ x ≤ 100000) (k : Nat) : 0 ≤ engK l k ∧ engK l k ≤ 100000 * k := by
  induction k with
  | zero => exact ⟨Int.le_refl 0, by simp [engK]⟩
  | succ k ih => have := getD_bd h (by omega) k; simp only [engK]; omega
theorem mul_bd {a b A B : Int} (ha : 0 ≤ a ∧ a ≤ A) (hb : 0 ≤ b ∧ b ≤ B) : 0 ≤ a * b ∧ a * b ≤ A * B :=
  ⟨Int.mul_nonneg ha.1 hb.1, Int.mul_le_mul ha.2 hb.2 hb.1 (Int.le_trans ha.1 ha.2)⟩
theorem amtK_bd {price l : List Int} {base : Int} (hp : ∀ x ∈ price, 0 ≤ x ∧ x ≤ 1000) (h : ∀ x ∈ l, 0 ≤ x ∧ x ≤ 100000) (hb : 0 ≤ base ∧ base ≤ 1000000000) (k : Nat) : 0 ≤ amtK price l base k ∧ amtK price l base k ≤ 1000000000 + 100000000 * k := by
  induction k with
  | zero => simpa [amtK] using hb
  | succ k ih => have := mul_bd (getD_bd h (by omega) k) (getD_bd hp (by omega) (k % 24)); simp only [amtK]; omega
theorem pctK_bd {l : List Sp} {out : Int} (h : ∀ x ∈ l, 0 ≤ x.2 ∧ x.2 ≤ 100) (k : Nat) : 0 ≤ pctK l out k ∧ pctK l out k ≤ 100 := by
  induction k with
  | zero => simp [pctK]
  | succ k ih =>
    rcases e : l[k]? with _ | x
    · have : pctK l out (k + 1) = pctK l out k := by unfold pctK; rw [List.take_add_one, e]; simp
      rw [this]; exact ih
    · rw [pctK_succ e]; split
      · exact h x (List.mem_of_getElem? e)
      · exact ih
/-- What is given back. -/
def crdK (price l : List Int) (base : Int) (ts : List Sp) (credit out : Int) : Int := (amtK price l base l.length * min (pctK ts out ts.length) credit + 50) / 100
/-- The bill. -/
def billK (price l : List Int) (base : Int) (ts : List Sp) (credit out : Int) : Array Value := #[.int .i64 (engK l l.length), .int .i64 (amtK price l base l.length), .int .i64 (crdK price l base ts credit out), .int .i64 (amtK price l base l.length - crdK price l base ts credit out)]
def b6Phi (bb pb po : Nat) (bt : Nat) (pA : Option Addr) (pc k kr : Nat) (a v p : Int) (nb : Array Value) : Nat → Value → World → (Nat → Nat) → Prop
  | 0, y, _, _ => y = .pointer (some ⟨bb, 1, none⟩)
  | 1, y, _, _ => y = .int .i64 a
  | 2, y, _, _ => y = .int .i64 v
  | 3, y, _, _ => y = .pointer (some ⟨bt, 0, none⟩)
  | 4, y, _, _ => y = .slice pA 24 pc
  | 5, y, _, _ => y = .int .i64 (k : Int)
  | 6, y, _, _ => y = .int .i64 (kr : Int)
  | 7, y, _, _ => y = .pointer (some ⟨pb, po, none⟩)
  | 8, y, _, _ => y = .int .i64 p
  | 9, y, _, _ => y = .int .i64 (v * p)
  | 10, y, _, _ => y = .int .i64 (a + v * p)
  | 11, y, _, _ => y = .pointer (some ⟨bb, 1, none⟩)
  | 12, _, W, _ => Blk W bb 77 nb
  | _, _, _, _ => True
theorem b6Phi_w {bb pb po bt : Nat} {pA : Option Addr} {pc k kr : Nat} {a v p : Int} {nb : Array Value} {j : Nat} {y : Value} {W W' : World} {γ γ' : Nat → Nat} (hj : j ≠ 12) (h : b6Phi bb pb po bt pA pc k kr a v p nb j y W γ) : b6Phi bb pb po bt pA pc k kr a v p nb j y W' γ' := by
  unfold b6Phi at h ⊢
  split at h <;> first | exact h | trivial | omega
def b8Phi (bb tb ub : Nat) (tcs : Array Value) (a o p : Int) (nb : Array Value) : Nat → Value → World → (Nat → Nat) → Prop
  | 0, y, _, _ => y = .pointer (some ⟨bb, 1, none⟩)
  | 1, y, _, _ => y = .int .i64 a
  | 2, y, _, _ => y = .agg tcs
  | 3, y, _, _ => y = .pointer (some ⟨ub, 1, none⟩)
  | 4, y, _, _ => y = .int .i64 o
  | 5, y, _, _ => y = .int .i64 p
  | 6, y, _, _ => y = .int .i64 (a * p)
  | 7, y, _, _ => y = .int .i64 (a * p + 50)
  | 8, y, _, _ => y = .int .i64 ((a * p + 50) / 100)
  | 9, y, _, _ => y = .pointer (some ⟨bb, 2, none⟩)
  | 10, _, W, _ => Blk W bb 77 nb
  | _, _, _, _ => True
theorem b8Phi_w {bb tb ub : Nat} {tcs : Array Value} {a o p : Int} {nb : Array Value} {j : Nat} {y : Value} {W W' : World} {γ γ' : Nat → Nat} (hj : j ≠ 10) (h : b8Phi bb tb ub tcs a o p nb j y W γ) : b8Phi bb tb ub tcs a o p nb j y W' γ' := by
  unfold b8Phi at h ⊢
  split at h <;> first | exact h | trivial | omega
set_option maxRecDepth 100000 in
set_option maxHeartbeats 8000000 in
theorem bill_any (price : List Int) (base : Int) (l : List Sp) (credit : Int) (vals : List Int) (out : Int) (pA tA uA : Option Addr) (pc tn tc un uc : Nat) (w : World) (ok : TrfOk ⟨price, base, l, credit⟩) (hin : TrfIn w w.heap.size tn pA tA ⟨price, base, l, credit⟩) (h1 : vals.length ≤ 1000) (hv : ∀ x ∈ vals, 0 ≤ x ∧ x ≤ 100000) (hu : Rd w w.heap.size 1 encI uA un vals) :
    Calls Try.prog 59 #[.agg #[.slice pA 24 pc, .int .i64 base, .slice tA tn tc, .int .i64 credit], .agg #[.slice uA un uc, .int .i64 out]] w fun e w' => e = .returned (.agg (billK price vals base l credit out)) ∧ Below w.heap.size w w' := by
  have HOK := Lib.hid ok
  have HI := Lib.hid hin
  have HU := Lib.hid hu
  have HV := Lib.hid hv
  have HN : Hid (un ≤ 1000 ∧ vals.length = un) := Lib.hid ⟨by have := hu.1; omega, hu.1⟩
  have hnn := tier_nn ok.ti
  have HPC : Hid (0 ≤ min (pctK l out l.length) credit ∧ min (pctK l out l.length) credit ≤ 100) := Lib.hid (by
    have h9 := pctK_bd (l := l) (out := out) (fun x hx => by obtain ⟨i, hi, e⟩ := List.getElem_of_mem hx; have e2 : l[i]? = some x := by rw [List.getElem?_eq_getElem hi, e]
                                                             exact ⟨(hnn i x e2).2, (ok.ti i x e2).2.2⟩) l.length
    have := ok.cr
    dsimp only at this
    omega)
  have KP := Lib.hid (fun W (h : Below w.heap.size w W) => percentage_any ⟨price, base, l, credit⟩ pA tA pc tn tc out W ok.tl (hin.next h).t)
  dsimp only at KP
  have g1 : w.heap.size < w.heap.size + 1 := by omega
  have g2 : w.heap.size < w.heap.size + 1 + 1 := by omega
  have g3 : w.heap.size < w.heap.size + 1 + 1 + 1 := by omega
  have g4 : w.heap.size + 1 < w.heap.size + 1 + 1 := by omega
  have g5 : w.heap.size + 1 < w.heap.size + 1 + 1 + 1 := by omega
  have g6 : w.heap.size + 1 < w.heap.size + 1 + 1 + 1 + 1 := by omega
  have g7 : w.heap.size < w.heap.size + 1 + 1 + 1 + 1 := by omega
  have g8 : w.heap.size + 1 + 1 + 1 < w.heap.size + 1 + 1 + 1 + 1 := by omega
  clear ok hin h1 hv hu hnn
  go_enter Try.func59, Try.ntmps59
  go_wp2
  obtain ⟨tb, htb⟩ : ∃ z, z = w.heap.size := ⟨_, rfl⟩
  obtain ⟨w1, hw1⟩ : ∃ z, z = w.alloc (.cells #[.slice pA 24 pc, .int .i64 base, .slice tA tn tc, .int .i64 credit] 25) := ⟨_, rfl⟩
  have TB : Hid (Blk w1 tb 25 #[.slice pA 24 pc, .int .i64 base, .slice tA tn tc, .int .i64 credit]) := Lib.hid (by rw [hw1, htb]; exact heap_alloc_new w _)
  have Sw1 : Hid (w1.heap.size = tb + 1) := Lib.hid (by rw [hw1, htb, World.size_alloc])
  have Ztb : Hid (w.heap.size ≤ tb) := Lib.hid (by rw [htb]; exact Nat.le_refl _)
  have hBn : Below w.heap.size w w1 := by rw [hw1]; exact (Below.refl _ _).alloc (Nat.le_refl _) _
  rw [← hw1, ← htb]
  have B0 : Hid (Below w.heap.size w w1) := Lib.hid hBn
  clear hw1 htb hBn
  obtain ⟨ub, hub⟩ : ∃ z, z = tb + 1 := ⟨_, rfl⟩
  obtain ⟨w2, hw2⟩ : ∃ z, z = w1.alloc (.cells #[.slice uA un uc, .int .i64 out] 28) := ⟨_, rfl⟩
  have UB : Hid (Blk w2 ub 28 #[.slice uA un uc, .int .i64 out]) := Lib.hid (by have e2 := heap_alloc_new w1 (.cells #[.slice uA un uc, .int .i64 out] 28); rw [Sw1.out] at e2; rw [hw2, hub]; exact e2)
  have Sw2 : Hid (w2.heap.size = ub + 1) := Lib.hid (by rw [hw2, hub, World.size_alloc, Sw1.out])
  have Zub : Hid (w1.heap.size = ub) := Lib.hid (by rw [Sw1.out, hub])
  have hBn : Below w1.heap.size w1 w2 := by rw [hw2]; exact (Below.refl _ _).alloc (Nat.le_refl _) _
  rw [← hw2, ← hub]
  have B1 : Hid (Below w1.heap.size w1 w2) := Lib.hid hBn
  clear hw2 hub hBn
  obtain ⟨rb, hrb⟩ : ∃ z, z = ub + 1 := ⟨_, rfl⟩
  obtain ⟨w3, hw3⟩ : ∃ z, z = w2.alloc (.cells #[.int .i64 0, .int .i64 0, .int .i64 0, .int .i64 0] 77) := ⟨_, rfl⟩
  have RB : Hid (Blk w3 rb 77 #[.int .i64 0, .int .i64 0, .int .i64 0, .int .i64 0]) := Lib.hid (by have e2 := heap_alloc_new w2 (.cells #[.int .i64 0, .int .i64 0, .int .i64 0, .int .i64 0] 77); rw [Sw2.out] at e2; rw [hw3, hrb]; exact e2)
  have Sw3 : Hid (w3.heap.size = rb + 1) := Lib.hid (by rw [hw3, hrb, World.size_alloc, Sw2.out])
  have Zrb : Hid (w2.heap.size = rb) := Lib.hid (by rw [Sw2.out, hrb])
  have hBn : Below w2.heap.size w2 w3 := by rw [hw3]; exact (Below.refl _ _).alloc (Nat.le_refl _) _
  rw [← hw3, ← hrb]
  have B2 : Hid (Below w2.heap.size w2 w3) := Lib.hid hBn
  clear hw3 hrb hBn
  obtain ⟨bb, hbb⟩ : ∃ z, z = rb + 1 := ⟨_, rfl⟩
  obtain ⟨w4, hw4⟩ : ∃ z, z = w3.alloc (.cells #[.int .i64 0, .int .i64 base, .int .i64 0, .int .i64 0] 77) := ⟨_, rfl⟩
  have BB : Hid (Blk w4 bb 77 #[.int .i64 0, .int .i64 base, .int .i64 0, .int .i64 0]) := Lib.hid (by have e2 := heap_alloc_new w3 (.cells #[.int .i64 0, .int .i64 base, .int .i64 0, .int .i64 0] 77); rw [Sw3.out] at e2; rw [hw4, hbb]; exact e2)
  have Sw4 : Hid (w4.heap.size = bb + 1) := Lib.hid (by rw [hw4, hbb, World.size_alloc, Sw3.out])
  have Zbb : Hid (w3.heap.size = bb) := Lib.hid (by rw [Sw3.out, hbb])
  have hBn : Below w3.heap.size w3 w4 := by rw [hw4]; exact (Below.refl _ _).alloc (Nat.le_refl _) _
  rw [← hw4, ← hbb]
  have B3 : Hid (Below w3.heap.size w3 w4) := Lib.hid hBn
  clear hw4 hbb hBn
  clear g1 g2 g3 g4 g5 g6 g7 g8
  have HZ : Hid (w.heap.size ≤ tb ∧ tb < ub ∧ ub < rb ∧ rb < bb ∧ w4.heap.size = bb + 1) := Lib.hid (by have h1 := Ztb.out; have h2 := Zub.out; have h3 := Zrb.out; have h4 := Zbb.out; have h5 := Sw1.out; have h6 := Sw2.out; have h7 := Sw3.out; have h8 := Sw4.out; omega)
  have HB4 : Hid (Below w.heap.size w w4) := Lib.hid (below3 (below3 (below3 B0.out B1.out (Nat.le_refl _)) B2.out (Nat.le_refl _)) B3.out (Nat.le_refl _))
  have HT4 := Lib.hid (TB.out.below (below3 (below3 B1.out B2.out (Nat.le_refl _)) B3.out (Nat.le_refl _)) TB.out.lt)
  have HU4 := Lib.hid (UB.out.below (below3 B2.out B3.out (Nat.le_refl _)) UB.out.lt)
  have HR4 := Lib.hid (RB.out.below B3.out RB.out.lt)
  go_loopw [14] (fun iv wr => ∃ k : Nat, k ≤ un ∧ iv = .int .i64 ((k : Nat) : Int) ∧ Hid (Keep (fun b => b = bb) w4 wr ∧ Blk wr bb 77 #[.int .i64 (engK vals k), .int .i64 (amtK price vals base k), .int .i64 0, .int .i64 0])) (fun iv _ => un - (intOf iv).toNat)
  case atStart => exact ⟨0, Nat.zero_le _, rfl, Lib.hid ⟨Keep.refl _ _, BB.out⟩⟩
  case round =>
    obtain ⟨k, hk, rfl, HW⟩ := hrel
    have HB0 : Hid (Below w.heap.size w wr) := Lib.hid (HB4.out.trans (HW.out.1.below HB4.out.size (fun b e => by rw [e]; have := HZ.out; omega)))
    have HNB := Lib.hid (HU.out.next HB0.out)
    by_cases hlt : k < un
    · have HLT : Hid (k < un) := Lib.hid hlt
      have hk0 : (0 : Int) ≤ (k : Int) := by omega
      have hkn : (k : Int) < (un : Int) := by omega
      have hk9 : (k : Int) ≤ 1000 := by have := HN.out; omega
      obtain ⟨kr, hkr⟩ : ∃ z, z = k % 24 := ⟨_, rfl⟩
      have hk24 : kr < 24 := by omega
      obtain ⟨b, o, v, eA, hb, hx, hcx⟩ := HU.out.at_ hlt
      obtain ⟨q, po, p, eP, hqb, hpx, hpc⟩ := HI.out.p.at_ (show kr < 24 by omega)
      have c0 := (HB0.out.cell (p := ⟨b, o + k, none⟩) hb).trans (cellI hcx)
      have p0 := (HB0.out.cell (p := ⟨q, po + kr, none⟩) hqb).trans (cellI hpc)
      have hgv : vals.getD k 0 = v := by rw [List.getD_eq_getElem?_getD, hx]; rfl
      have hgp : price.getD (k % 24) 0 = p := by rw [← hkr, List.getD_eq_getElem?_getD, hpx]; rfl
      have he1 : engK vals (k + 1) = engK vals k + v := by simp only [engK]; rw [hgv]
      have ha1 : amtK price vals base (k + 1) = amtK price vals base k + v * p := by simp only [amtK]; rw [hgv, hgp]
      have hbe := engK_bd HV.out (k + 1)
      have hba := amtK_bd HOK.out.pb HV.out HOK.out.b (k + 1)
      have hbv := mul_bd (getD_bd HV.out (by omega) k) (getD_bd HOK.out.pb (by omega) (k % 24))
      rw [hgv, hgp] at hbv
      dsimp only at hba
      rw [ha1] at hba
      rw [he1] at hbe
      have zb : b < wr.heap.size := Nat.lt_of_lt_of_le hb HB0.out.size
      obtain ⟨ek, hek⟩ : ∃ z, z = engK vals k := ⟨_, rfl⟩
      obtain ⟨a, ha⟩ : ∃ z, z = amtK price vals base k := ⟨_, rfl⟩
      rw [← hek] at he1 hbe
      rw [← ha] at ha1 hba
      have HEN : Hid (engK vals (k + 1) = ek + v) := Lib.hid he1
      have HAM : Hid (a + v * p = amtK price vals base (k + 1)) := Lib.hid ha1.symm
      have we : IntKind.i64.wrap (ek + v) = ek + v := IntWalk.i64_in _ (by omega)
      have HWV : Hid (IntKind.i64.wrap (v * p) = v * p ∧ IntKind.i64.wrap (a + v * p) = a + v * p) := Lib.hid ⟨IntWalk.i64_in _ (by omega), IntWalk.i64_in _ (by omega)⟩
      have HRM : Hid ((k : Int).tmod 24 = (kr : Int)) := Lib.hid (by rw [Int.tmod_eq_emod_of_nonneg (by omega)]; omega)
      have HIX : Hid ((0 : Int) ≤ (kr : Int) ∧ (kr : Int) < 24 ∧ kr < 24) := Lib.hid (by omega)
      have HW0 := HW.out.2
      rw [← hek, ← ha] at HW0
      have d0 := HW0.cell 0
      simp only [List.getElem?_toArray, List.getElem?_cons_zero, List.getElem?_cons_succ] at d0
      have zd := HW0.lt
      have fd := HW0.frozen
      obtain ⟨ws, hws⟩ : ∃ z, z = wr.setCell ⟨bb, 0, none⟩ (.int .i64 (ek + v)) := ⟨_, rfl⟩
      have hsb : Blk ws bb 77 #[.int .i64 (engK vals (k + 1)), .int .i64 a, .int .i64 0, .int .i64 0] := by
        rw [hws, HEN.out]
        have h9 := HW0.set_ 0 (.int .i64 (ek + v))
        simpa using h9
      have HSB := Lib.hid hsb
      have hks : Keep (fun b => b = bb) wr ws := by rw [hws]; exact (Keep.refl (fun b => b = bb) wr).setCell (p := ⟨bb, 0, none⟩) rfl _
      have HKS := Lib.hid (HW.out.1.trans hks)
      have HTS := Lib.hid (HKS.out.blk HT4.out (by have := HZ.out; omega))
      have hqn : q ≠ bb := by
        have := HZ.out
        omega
      have hqr : q < wr.heap.size := Nat.lt_of_lt_of_le hqb HB0.out.size
      have HPX : Hid (q < ws.heap.size ∧ ¬ (q = bb) ∧ ws.cell? ⟨q, po + kr, none⟩ = some (.int .i64 p)) := Lib.hid ⟨Nat.lt_of_lt_of_le hqr hks.size, hqn, hks.cell hqr hqn p0⟩
      clear hlt hx hcx hpx hpc hgv hgp he1 ha1 hbe hba hbv hek ha HW0 hsb hks hb hk p0 hqb hqn hqr hkr hk24
      subst eA
      go_wp2
      rw [← hws]
      refine wp_region_free10 12 (by kernel_rfl) [some 24, some 25, some 26, some 27, some 28, some 29, some 30, some 31, some 32, some 33, some 34, some 35, none] [[], [0], [], [], [3], [], [5], [4, 6], [7], [2, 8], [1, 9], [0, 1, 2, 3, 4, 5, 6, 7, 8, 9, 10], [11, 10, 0, 1, 2, 3, 4, 5, 6, 7, 8, 9, 10]] [(5, .pointer (some ⟨bb, 0, none⟩)), (2, .pointer (some ⟨tb, 0, none⟩)), (6, .int .i64 (k : Int)), (7, .int .i64 v)] (fun W γ => Keep (fun b => b = bb) ws W ∧ (γ 0 = 0 → Blk W bb 77 #[.int .i64 (engK vals (k + 1)), .int .i64 a, .int .i64 0, .int .i64 0])) (b6Phi bb q (po + kr) tb (some ⟨q, po, none⟩) pc k kr a v p #[.int .i64 (engK vals (k + 1)), .int .i64 (a + v * p), .int .i64 0, .int .i64 0]) (fun _ _ γ => γ 0 = 0) (by kernel_rfl) (by kernel_rfl) rfl (by kernel_rfl) ?_ ?_ ⟨fun _ => 0, ⟨Keep.of_below (Below.refl _ _).drew, fun _ => HSB.out.below (Below.refl _ _).drew HSB.out.lt⟩, fun i _ => rfl⟩ ?_ ?_
      · intro z hz
        simp only [List.mem_cons, List.mem_nil_iff, or_false] at hz
        rcases hz with rfl | rfl | rfl | rfl
        all_goals exact ⟨by kernel_rfl, rfl⟩
      · intro i v W γ hi h
        rcases i with _ | _ | _ | _ | _ | _ | _ | _ | _ | _ | _ | _ | _ | i
        all_goals first | exact h | (simp at hi)
      · refine ⟨?_, ?_, ?_, ?_, ?_, ?_, ?_, ?_, ?_, ?_, ?_, ?_, ?_, trivial⟩
        all_goals
          intro a9 W γ ev hcc hff hfx hR hψ hpre
          simp only [List.mem_cons, List.mem_nil_iff, or_false, forall_eq, forall_eq_or_imp] at hfx
          obtain ⟨f0, f1, f2, f3⟩ := hfx
          have HR := Lib.hid hR
          clear hR
        · refine ⟨fun hg K hK => ?_, trivial⟩
          clear hg
          clear hpre hψ
          go_simp
          exact hK _ _ γ HR.out (fun _ _ _ _ h => h) (fun _ _ _ h => h) rfl
        · refine ⟨fun hg K hK => ?_, trivial⟩
          clear hg
          have q0 : ev (.tmp 24) = _ := hpre 0 (by decide)
          have hbb := HR.out.2 hψ
          have hzg := hbb.lt
          have e1 := hbb.cell 1
          simp only [List.getElem?_toArray, List.getElem?_cons_zero, List.getElem?_cons_succ] at e1
          clear hbb
          clear hpre hψ
          go_simp
          exact hK _ _ γ HR.out (fun _ _ _ _ h => h) (fun _ _ _ h => h) rfl
        · refine ⟨fun hg K hK => ?_, trivial⟩
          clear hg
          clear hpre hψ
          go_simp
          exact hK _ _ γ HR.out (fun _ _ _ _ h => h) (fun _ _ _ h => h) rfl
        · refine ⟨fun hg K hK => ?_, trivial⟩
          clear hg
          clear hpre hψ
          go_simp
          exact hK _ _ γ HR.out (fun _ _ _ _ h => h) (fun _ _ _ h => h) rfl
        · refine ⟨fun hg K hK => ?_, trivial⟩
          clear hg
          have q0 : ev (.tmp 27) = _ := hpre 3 (by decide)
          have hbk := HR.out.1.blk HTS.out (by have := HZ.out; omega)
          have e0 := hbk.cell 0
          simp only [List.getElem?_toArray, List.getElem?_cons_zero, List.getElem?_cons_succ] at e0
          have ze := hbk.lt
          clear hbk
          clear hpre hψ
          go_simp
          exact hK _ _ γ HR.out (fun _ _ _ _ h => h) (fun _ _ _ h => h) rfl
        · refine ⟨fun hg K hK => ?_, trivial⟩
          clear hg
          clear hpre hψ
          go_simp
          exact hK _ _ γ HR.out (fun _ _ _ _ h => h) (fun _ _ _ h => h) rfl
        · refine ⟨fun hg K hK => ?_, trivial⟩
          clear hg
          have q0 : ev (.tmp 29) = _ := hpre 5 (by decide)
          have wr9 := HRM.out
          clear hpre hψ
          go_simp
          exact hK _ _ γ HR.out (fun _ _ _ _ h => h) (fun _ _ _ h => h) rfl
        · refine ⟨fun hg K hK => ?_, trivial⟩
          clear hg
          have q0 : ev (.tmp 28) = _ := hpre 4 (by decide)
          have q1 : ev (.tmp 30) = _ := hpre 6 (by decide)
          have i0 := HIX.out.1
          have i1 := HIX.out.2.1
          clear hpre hψ
          go_simp
          exact hK _ _ γ HR.out (fun _ _ _ _ h => h) (fun _ _ _ h => h) rfl
        · refine ⟨fun hg K hK => ?_, trivial⟩
          clear hg
          have q0 : ev (.tmp 31) = _ := hpre 7 (by decide)
          have cy := HR.out.1.cell HPX.out.1 HPX.out.2.1 HPX.out.2.2
          have zy : q < W.heap.size := Nat.lt_of_lt_of_le HPX.out.1 HR.out.1.size
          clear hpre hψ
          go_simp
          exact hK _ _ γ HR.out (fun _ _ _ _ h => h) (fun _ _ _ h => h) rfl
        · refine ⟨fun hg K hK => ?_, trivial⟩
          clear hg
          have q0 : ev (.tmp 26) = _ := hpre 2 (by decide)
          have q1 : ev (.tmp 32) = _ := hpre 8 (by decide)
          have wv := HWV.out.1
          clear hpre hψ
          go_simp
          exact hK _ _ γ HR.out (fun _ _ _ _ h => h) (fun _ _ _ h => h) rfl
        · refine ⟨fun hg K hK => ?_, trivial⟩
          clear hg
          have q0 : ev (.tmp 25) = _ := hpre 1 (by decide)
          have q1 : ev (.tmp 33) = _ := hpre 9 (by decide)
          have wv := HWV.out.2
          clear hpre hψ
          go_simp
          exact hK _ _ γ HR.out (fun _ _ _ _ h => h) (fun _ _ _ h => h) rfl
        · refine ⟨fun hg K hK => ?_, trivial⟩
          clear hg
          clear hpre hψ
          go_simp
          exact hK _ _ γ HR.out (fun _ _ _ _ h => h) (fun _ _ _ h => h) rfl
        · refine ⟨fun hg K hK => ?_, trivial⟩
          clear hg
          have q0 : ev (.tmp 35) = _ := hpre 11 (by decide)
          have q1 : ev (.tmp 34) = _ := hpre 10 (by decide)
          have hbb := HR.out.2 hψ
          have zl := hbb.lt
          have fl9 := hbb.frozen
          have ca := hbb.cell 1
          simp only [List.getElem?_toArray, List.getElem?_cons_zero, List.getElem?_cons_succ] at ca
          have HR9 := Lib.hid (And.intro HR.out.1 hbb)
          clear hpre hψ hbb
          go_simp
          refine hK undef _ (fun _ => 1) ⟨HR9.out.1.setCell (p := ⟨bb, 1, none⟩) rfl _, fun e => by simp at e⟩ (fun j u _ hne h => b6Phi_w hne h) (fun h => absurd rfl h) ?_
          have h9 := HR9.out.2.set_ 1 (.int .i64 (a + v * p))
          show Blk _ bb 77 _
          simpa using h9
      · intro vs wy γ hvl hR hφ
        have q12 := hφ 12 (by decide)
        have HR := Lib.hid hR
        clear hφ hR
        match vs, hvl with
        | [y0, y1, y2, y3, y4, y5, y6, y7, y8, y9, y10, y11, y12], _ =>
        simp only [List.getD_cons_zero, List.getD_cons_succ] at q12
        have HN9 : Hid (Keep (fun b => b = bb) w4 wy ∧ Blk wy bb 77 #[.int .i64 (engK vals (k + 1)), .int .i64 (amtK price vals base (k + 1)), .int .i64 0, .int .i64 0]) := Lib.hid ⟨HKS.out.trans HR.out.1, by rw [← HAM.out]; exact q12⟩
        clear HR q12
        simp [putAll]
        go_wp2
        go_roundw
        case rel => exact ⟨k + 1, by have := HLT.out; omega, by go_num, HN9⟩
        case measure => have := HLT.out; simp [intOf]; omega
    · obtain rfl : un = k := by omega
      obtain ⟨en, hen⟩ : ∃ z, z = engK vals un := ⟨_, rfl⟩
      obtain ⟨a, ha⟩ : ∃ z, z = amtK price vals base un := ⟨_, rfl⟩
      obtain ⟨p, hp⟩ : ∃ z, z = min (pctK l out l.length) credit := ⟨_, rfl⟩
      have HAP := Lib.hid (And.intro ha (And.intro hp hen))
      have hba := amtK_bd HOK.out.pb HV.out HOK.out.b un
      dsimp only at hba
      rw [← ha] at hba
      have hpb := HPC.out
      rw [← hp] at hpb KP
      have hmb := mul_bd (a := a) (b := p) (A := 101000000000) (B := 100) (by have := HN.out; omega) hpb
      have HWB : Hid (0 ≤ a * p ∧ a * p ≤ 10100000000000 ∧ 0 ≤ a ∧ a ≤ 101000000000) := Lib.hid (by have := HN.out; omega)
      have HWV : Hid (IntKind.i64.wrap (a * p) = a * p ∧ IntKind.i64.wrap (a * p + 50) = a * p + 50 ∧ IntKind.i64.wrap ((a * p + 50).tdiv 100) = (a * p + 50) / 100) := Lib.hid ⟨IntWalk.i64_in _ (by omega), IntWalk.i64_in _ (by omega), by rw [Int.tdiv_eq_ediv_of_nonneg (by omega)]; exact IntWalk.i64_in _ (by omega)⟩
      have HPP : Hid (b8Phi bb tb ub #[.slice pA 24 pc, .int .i64 base, .slice tA tn tc, .int .i64 credit] a out p #[.int .i64 en, .int .i64 a, .int .i64 ((a * p + 50) / 100), .int .i64 0] 5 (.int .i64 p) wr (fun _ => 0)) := Lib.hid rfl
      have hsb := HW.out.2
      rw [← hen, ← ha] at hsb
      have HSB := Lib.hid hsb
      have HTS := Lib.hid (HW.out.1.blk HT4.out (by have := HZ.out; omega))
      have HUS := Lib.hid (HW.out.1.blk HU4.out (by have := HZ.out; omega))
      have HRS := Lib.hid (HW.out.1.blk HR4.out (by have := HZ.out; omega))
      clear hen ha hp hba hpb hmb hsb hk hlt
      go_wp2
      refine wp_region_free10 10 (by kernel_rfl) [some 37, some 38, some 39, some 40, some 41, some 42, some 43, some 44, some 45, some 46, none] [[], [0], [], [], [3], [2, 4], [1, 5], [6], [7], [0, 1, 2, 3, 4, 5, 6, 7, 8], [9, 8, 5, 0, 1, 2, 3, 4, 5, 6, 7, 8]] [(5, .pointer (some ⟨bb, 0, none⟩)), (2, .pointer (some ⟨tb, 0, none⟩)), (3, .pointer (some ⟨ub, 0, none⟩))] (fun W γ => Keep (fun b => b = bb) wr W ∧ (γ 0 = 0 → Blk W bb 77 #[.int .i64 en, .int .i64 a, .int .i64 0, .int .i64 0])) (b8Phi bb tb ub #[.slice pA 24 pc, .int .i64 base, .slice tA tn tc, .int .i64 credit] a out p #[.int .i64 en, .int .i64 a, .int .i64 ((a * p + 50) / 100), .int .i64 0]) (fun _ _ γ => γ 0 = 0) (by kernel_rfl) (by kernel_rfl) rfl (by kernel_rfl) ?_ ?_ ⟨fun _ => 0, ⟨Keep.of_below (Below.refl _ _).drew, fun _ => HSB.out.below (Below.refl _ _).drew HSB.out.lt⟩, fun i _ => rfl⟩ ?_ ?_
      · intro z hz
        simp only [List.mem_cons, List.mem_nil_iff, or_false] at hz
        rcases hz with rfl | rfl | rfl
        all_goals exact ⟨by kernel_rfl, rfl⟩
      · intro i v W γ hi h
        rcases i with _ | _ | _ | _ | _ | _ | _ | _ | _ | _ | _ | i
        all_goals first | exact h | (simp at hi)
      · refine ⟨?_, ?_, ?_, ?_, ?_, ?_, ?_, ?_, ?_, ?_, ?_, trivial⟩
        all_goals
          intro a9 W γ ev hcc hff hfx hR hψ hpre
          simp only [List.mem_cons, List.mem_nil_iff, or_false, forall_eq, forall_eq_or_imp] at hfx
          obtain ⟨f0, f1, f2⟩ := hfx
          have HR := Lib.hid hR
          clear hR
        · refine ⟨fun hg K hK => ?_, trivial⟩
          clear hg
          clear hpre hψ
          go_simp
          exact hK _ _ γ HR.out (fun _ _ _ _ h => h) (fun _ _ _ h => h) rfl
        · refine ⟨fun hg K hK => ?_, trivial⟩
          clear hg
          have q0 : ev (.tmp 37) = _ := hpre 0 (by decide)
          have hbb := HR.out.2 hψ
          have hzg := hbb.lt
          have e1 := hbb.cell 1
          simp only [List.getElem?_toArray, List.getElem?_cons_zero, List.getElem?_cons_succ] at e1
          clear hbb
          clear hpre hψ
          go_simp
          exact hK _ _ γ HR.out (fun _ _ _ _ h => h) (fun _ _ _ h => h) rfl
        · refine ⟨fun hg K hK => ?_, trivial⟩
          clear hg
          have hbk := HR.out.1.blk HTS.out (by have := HZ.out; omega)
          have e0 := hbk.cell 0
          have e1 := hbk.cell 1
          have e2 := hbk.cell 2
          have e3 := hbk.cell 3
          simp only [List.getElem?_toArray, List.getElem?_cons_zero, List.getElem?_cons_succ] at e0 e1 e2 e3
          have ze := hbk.lt
          clear hbk
          clear hpre hψ
          go_simp
          exact hK _ _ γ HR.out (fun _ _ _ _ h => h) (fun _ _ _ h => h) rfl
        · refine ⟨fun hg K hK => ?_, trivial⟩
          clear hg
          clear hpre hψ
          go_simp
          exact hK _ _ γ HR.out (fun _ _ _ _ h => h) (fun _ _ _ h => h) rfl
        · refine ⟨fun hg K hK => ?_, trivial⟩
          clear hg
          have q0 : ev (.tmp 40) = _ := hpre 3 (by decide)
          have hbk := HR.out.1.blk HUS.out (by have := HZ.out; omega)
          have e1 := hbk.cell 1
          simp only [List.getElem?_toArray, List.getElem?_cons_zero, List.getElem?_cons_succ] at e1
          have ze := hbk.lt
          clear hbk
          clear hpre hψ
          go_simp
          exact hK _ _ γ HR.out (fun _ _ _ _ h => h) (fun _ _ _ h => h) rfl
        · refine ⟨fun hg K hK => ?_, trivial⟩
          clear hg
          have q0 : ev (.tmp 39) = _ := hpre 2 (by decide)
          have q1 : ev (.tmp 41) = _ := hpre 4 (by decide)
          have HBW9 : Hid (Below w.heap.size w W) := Lib.hid (HB0.out.trans (HR.out.1.below HB0.out.size (fun b e => by rw [e]; have := HZ.out; omega)))
          have HXA := HR
          clear hpre hψ
          go_simp
          refine (KP.out W HBW9.out).mono ?_
          rintro e9 w5 ⟨rfl, hB5⟩
          exact hK _ w5 γ ⟨HXA.out.1.trans (Keep.of_below hB5), fun e => (HXA.out.2 e).below hB5 (HXA.out.2 e).lt⟩ (fun j u hj hne h => by
            by_cases e : j = 10
            · subst e; exact Blk.below h hB5 (Blk.lt h)
            · exact b8Phi_w e h) (fun _ _ _ h => h) HPP.out
        · refine ⟨fun hg K hK => ?_, trivial⟩
          clear hg
          have q0 : ev (.tmp 38) = _ := hpre 1 (by decide)
          have q1 : ev (.tmp 42) = _ := hpre 5 (by decide)
          have wv := HWV.out.1
          clear hpre hψ
          go_simp
          exact hK _ _ γ HR.out (fun _ _ _ _ h => h) (fun _ _ _ h => h) rfl
        · refine ⟨fun hg K hK => ?_, trivial⟩
          clear hg
          have q0 : ev (.tmp 43) = _ := hpre 6 (by decide)
          have wv := HWV.out.2.1
          clear hpre hψ
          go_simp
          exact hK _ _ γ HR.out (fun _ _ _ _ h => h) (fun _ _ _ h => h) rfl
        · refine ⟨fun hg K hK => ?_, trivial⟩
          clear hg
          have q0 : ev (.tmp 44) = _ := hpre 7 (by decide)
          have wv := HWV.out.2.2
          clear hpre hψ
          go_simp
          exact hK _ _ γ HR.out (fun _ _ _ _ h => h) (fun _ _ _ h => h) rfl
        · refine ⟨fun hg K hK => ?_, trivial⟩
          clear hg
          clear hpre hψ
          go_simp
          exact hK _ _ γ HR.out (fun _ _ _ _ h => h) (fun _ _ _ h => h) rfl
        · refine ⟨fun hg K hK => ?_, trivial⟩
          clear hg
          have q0 : ev (.tmp 46) = _ := hpre 9 (by decide)
          have q1 : ev (.tmp 45) = _ := hpre 8 (by decide)
          have hbb := HR.out.2 hψ
          have zl := hbb.lt
          have fl9 := hbb.frozen
          have ca := hbb.cell 2
          simp only [List.getElem?_toArray, List.getElem?_cons_zero, List.getElem?_cons_succ] at ca
          have HR9 := Lib.hid (And.intro HR.out.1 hbb)
          clear hpre hψ hbb
          go_simp
          refine hK undef _ (fun _ => 1) ⟨HR9.out.1.setCell (p := ⟨bb, 2, none⟩) rfl _, fun e => by simp at e⟩ (fun j u _ hne h => b8Phi_w hne h) (fun h => absurd rfl h) ?_
          have h9 := HR9.out.2.set_ 2 (.int .i64 ((a * p + 50) / 100))
          show Blk _ bb 77 _
          simpa using h9
      · intro vs wy γ hvl hR hφ
        have q10 := hφ 10 (by decide)
        have HR := Lib.hid hR
        clear hφ hR
        match vs, hvl with
        | [y0, y1, y2, y3, y4, y5, y6, y7, y8, y9, y10], _ =>
        simp only [List.getD_cons_zero, List.getD_cons_succ] at q10
        obtain ⟨cr, hcr⟩ : ∃ z, z = (a * p + 50) / 100 := ⟨_, rfl⟩
        have HCR : Hid (cr = crdK price vals base l credit out ∧ 0 ≤ cr ∧ cr ≤ 1000000000000) := Lib.hid ⟨by rw [hcr]; unfold crdK; rw [HN.out.2, ← HAP.out.1, ← HAP.out.2.1], by have := HWB.out; omega, by have := HWB.out; omega⟩
        rw [← hcr] at q10
        have HBY : Hid (Blk wy bb 77 #[.int .i64 en, .int .i64 a, .int .i64 cr, .int .i64 0]) := Lib.hid q10
        have hrb := HR.out.1.blk HRS.out (by have := HZ.out; omega)
        have HRY : Hid (Blk wy rb 77 #[.int .i64 0, .int .i64 0, .int .i64 0, .int .i64 0]) := Lib.hid hrb
        have HKY : Hid (Below w.heap.size w wy) := Lib.hid (HB0.out.trans (HR.out.1.below HB0.out.size (fun b e => by rw [e]; have := HZ.out; omega)))
        have wv : IntKind.i64.wrap (a - cr) = a - cr := IntWalk.i64_in _ (by have := HWB.out; have := HCR.out; omega)
        clear HR q10 hrb
        have e0 := HBY.out.cell 0
        have e1 := HBY.out.cell 1
        have e2 := HBY.out.cell 2
        have e3 := HBY.out.cell 3
        have r0 := HRY.out.cell 0
        have r1 := HRY.out.cell 1
        have r2 := HRY.out.cell 2
        have r3 := HRY.out.cell 3
        simp only [List.getElem?_toArray, List.getElem?_cons_zero, List.getElem?_cons_succ] at e0 e1 e2 e3 r0 r1 r2 r3
        have ze := HBY.out.lt
        have zr := HRY.out.lt
        have fe := HBY.out.frozen
        have fr := HRY.out.frozen
        have n1 : bb ≠ rb := by have := HZ.out; omega
        have n2 : rb ≠ bb := fun e => n1 e.symm
        obtain ⟨W2, hW2⟩ : ∃ z, z = wy.setCell ⟨bb, 3, none⟩ (.int .i64 (a - cr)) := ⟨_, rfl⟩
        obtain ⟨W3, hW3⟩ : ∃ z, z = (((W2.setCell ⟨rb, 0, none⟩ (.int .i64 en)).setCell ⟨rb, 1, none⟩ (.int .i64 a)).setCell ⟨rb, 2, none⟩ (.int .i64 cr)).setCell ⟨rb, 3, none⟩ (.int .i64 (a - cr)) := ⟨_, rfl⟩
        have HF : Hid (Blk W3 rb 77 #[.int .i64 en, .int .i64 a, .int .i64 cr, .int .i64 (a - cr)] ∧ Below w.heap.size w W3) := Lib.hid ⟨by
          rw [hW3]
          have h0 : Blk W2 rb 77 #[.int .i64 0, .int .i64 0, .int .i64 0, .int .i64 0] := by rw [hW2]; exact HRY.out.far n2 _
          have h := ((((h0.set_ 0 (.int .i64 en)).set_ 1 (.int .i64 a)).set_ 2 (.int .i64 cr)).set_ 3 (.int .i64 (a - cr)))
          simpa using h, by
          rw [hW3, hW2]
          have hb9 : w.heap.size ≤ bb := by have := HZ.out; omega
          have hr9 : w.heap.size ≤ rb := by have := HZ.out; omega
          exact ((((HKY.out.setCell (p := ⟨bb, 3, none⟩) hb9 _).setCell (p := ⟨rb, 0, none⟩) hr9 _).setCell (p := ⟨rb, 1, none⟩) hr9 _).setCell (p := ⟨rb, 2, none⟩) hr9 _).setCell (p := ⟨rb, 3, none⟩) hr9 _⟩
        have HRES : Hid (billK price vals base l credit out = #[.int .i64 en, .int .i64 a, .int .i64 cr, .int .i64 (a - cr)]) := Lib.hid (by unfold billK; rw [← HCR.out.1, HN.out.2, ← HAP.out.1, ← HAP.out.2.2])
        clear hcr
        simp [putAll]
        go_wp2
        rw [← hW2, ← hW3]
        have x0 := HF.out.1.cell 0
        have x1 := HF.out.1.cell 1
        have x2 := HF.out.1.cell 2
        have x3 := HF.out.1.cell 3
        simp only [List.getElem?_toArray, List.getElem?_cons_zero, List.getElem?_cons_succ] at x0 x1 x2 x3
        rw [HRES.out]
        refine bodyPost_ret (v := .agg #[.int .i64 en, .int .i64 a, .int .i64 cr, .int .i64 (a - cr)]) ?_ rfl ?_
        · simp [results, Try.results59, go_sem, x0, x1, x2, x3]
        · exact ⟨rfl, HF.out.2⟩
end Go.Proofs.Ytcecbohaajocfaa
