/- meter: Total, where all is valid. -/
import Derived.Test.YtcecbohaajocfaaMtG
import Derived.Maps.AppendAt

set_option linter.unusedSimpArgs false
set_option linter.unusedVariables false
namespace Go.Proofs.Ytcecbohaajocfaa
open Go.RowKit

/-- A use in memory. -/
structure Ux where
  A : Option Addr
  n : Nat
  c : Nat
  vals : List Int
  out : Int
def Ux.enc (u : Ux) : List Value := [.slice u.A u.n u.c, .int .i64 u.out]
structure UxOk (u : Ux) : Prop where
  len : u.vals.length ≤ 1000
  val : ∀ x ∈ u.vals, 0 ≤ x ∧ x ≤ 100000
  out : 0 ≤ u.out ∧ u.out ≤ 50000
structure UsIn (w : World) (B ln : Nat) (lA : Option Addr) (us : List Ux) : Prop where
  l : Rd w B 2 Ux.enc lA ln us
  v : ∀ u ∈ us, Rd w B 1 encI u.A u.n u.vals
theorem UsIn.next {w w' : World} {ln : Nat} {lA : Option Addr} {us : List Ux} (h : UsIn w w.heap.size ln lA us) (hb : Below w.heap.size w w') : UsIn w' w'.heap.size ln lA us := ⟨h.l.next hb, fun u hu => (h.v u hu).next hb⟩
/-- The four numbers of a bill. -/
def bEn (u : Ux) : Int := engK u.vals u.vals.length
def bAm (t : Trf) (u : Ux) : Int := amtK t.price u.vals t.base u.vals.length
def bCr (t : Trf) (u : Ux) : Int := crdK t.price u.vals t.base t.tiers t.credit u.out
def bDu (t : Trf) (u : Ux) : Int := bAm t u - bCr t u
def encBl (t : Trf) (u : Ux) : List Value := [.int .i64 (bEn u), .int .i64 (bAm t u), .int .i64 (bCr t u), .int .i64 (bDu t u)]
theorem billK_is (t : Trf) (u : Ux) : billK t.price u.vals t.base t.tiers t.credit u.out = (encBl t u).toArray := rfl
def sumU (f : Ux → Int) (l : List Ux) : Int := (l.map f).sum
theorem sumU_snoc (f : Ux → Int) (l : List Ux) (u : Ux) : sumU f (l ++ [u]) = sumU f l + f u := by simp [sumU]
theorem sumU_bd {f : Ux → Int} {l : List Ux} (h : ∀ u ∈ l, -1000000000000 ≤ f u ∧ f u ≤ 1000000000000) (hl : l.length ≤ 64) : bd15 (sumU f l) := by
  have : -1000000000000 * (l.length : Int) ≤ sumU f l ∧ sumU f l ≤ 1000000000000 * l.length := by
    clear hl
    induction l with
    | nil => simp [sumU]
    | cons u l ih =>
      have h1 := h u (List.mem_cons_self ..)
      have h2 := ih fun x hx => h x (List.mem_cons_of_mem _ hx)
      have e : sumU f (u :: l) = f u + sumU f l := by simp [sumU]
      rw [e, List.length_cons]
      omega
  unfold bd15
  omega
theorem pct_bd {t : Trf} (ok : TrfOk t) (out : Int) : 0 ≤ min (pctK t.tiers out t.tiers.length) t.credit ∧ min (pctK t.tiers out t.tiers.length) t.credit ≤ 100 := by
  have hnn := tier_nn ok.ti
  have h9 := pctK_bd (l := t.tiers) (out := out) (fun x hx => by
    obtain ⟨i, hi, e⟩ := List.getElem_of_mem hx
    have e2 : t.tiers[i]? = some x := by rw [List.getElem?_eq_getElem hi, e]
    exact ⟨(hnn i x e2).2, (ok.ti i x e2).2.2⟩) t.tiers.length
  have := ok.cr
  omega
theorem bill_bd {t : Trf} (ok : TrfOk t) {u : Ux} (hu : UxOk u) : (0 ≤ bEn u ∧ bEn u ≤ 1000000000000) ∧ (0 ≤ bAm t u ∧ bAm t u ≤ 1000000000000) ∧ (0 ≤ bCr t u ∧ bCr t u ≤ 1000000000000) ∧ (-1000000000000 ≤ bDu t u ∧ bDu t u ≤ 1000000000000) := by
  have h1 := engK_bd hu.val u.vals.length
  have h2 := amtK_bd ok.pb hu.val ok.b u.vals.length
  have h3 := pct_bd ok u.out
  have hl := hu.len
  have h4 := mul_bd (a := amtK t.price u.vals t.base u.vals.length) (b := min (pctK t.tiers u.out t.tiers.length) t.credit) (A := 101000000000) (B := 100) (by omega) h3
  unfold bDu bEn bAm bCr crdK
  omega
theorem billInfo : (Try.prog.info? 77).map (fun i => (i.zero, i.size, i.bytes)) = some (some (.agg #[.int .i64 0, .int .i64 0, .int .i64 0, .int .i64 0]), 4, 32) := by kernel_rfl
theorem keep_low {S : Nat → Prop} {w w1 w2 : World} (h : Keep S w w1) (hb : Below w.heap.size w1 w2) : Keep S w w2 :=
  ⟨hb.os.trans h.os, hb.tape.trans h.tape, hb.output.trans h.output, Nat.le_trans h.size hb.size, fun b hb9 hn => (hb.block b hb9).trans (h.block b hb9 hn)⟩
def t14Phi (A : Option Addr) (ln ca rb : Nat) (sv : Array Value) : Nat → Value → World → (Nat → Nat) → Prop
  | 0, v, _, _ => v = .slice A ln ca
  | 1, v, _, _ => v = .agg sv
  | 2, v, _, _ => v = .slice A ln ca
  | 3, _, W, _ => Blk W rb 77 sv
  | 4, v, _, _ => v = .int .i64 0
  | _, _, _, _ => True
theorem t14Phi_w {A : Option Addr} {ln ca rb : Nat} {sv : Array Value} {j : Nat} {v : Value} {W W' : World} {γ γ' : Nat → Nat} (hj : j ≠ 3) (h : t14Phi A ln ca rb sv j v W γ) : t14Phi A ln ca rb sv j v W' γ' := by
  unfold t14Phi at h ⊢
  split at h <;> first | exact h | trivial | omega
/-- What stands in the sum's box. -/
def sumA (t : Trf) (l : List Ux) : Array Value := #[.int .i64 (sumU bEn l), .int .i64 (sumU (bAm t) l), .int .i64 (sumU (bCr t) l), .int .i64 (sumU (bDu t) l)]
set_option maxRecDepth 100000 in
set_option maxHeartbeats 8000000 in
theorem Total_any (price : List Int) (base : Int) (l : List Sp) (credit : Int) (us : List Ux) (pA tA lA : Option Addr) (pc tn tc ln lc : Nat) (w : World) (ok : TrfOk ⟨price, base, l, credit⟩) (hin : TrfIn w w.heap.size tn pA tA ⟨price, base, l, credit⟩) (h64 : us.length ≤ 64) (hus : ∀ u ∈ us, UxOk u) (hu : UsIn w w.heap.size ln lA us) :
    Calls Try.prog 28 #[.agg #[.slice pA 24 pc, .int .i64 base, .slice tA tn tc, .int .i64 credit], .slice lA ln lc] w fun e w' => ∃ (A : Option Addr) (ca : Nat), e = .returned (.tuple #[.slice A ln ca, .agg (sumA ⟨price, base, l, credit⟩ us), .int .i64 0]) ∧ w'.ownsRow w.heap.size 77 4 (.slice A ln ca) ln (us.flatMap (encBl ⟨price, base, l, credit⟩)) ∧ Below w.heap.size w w' := by
  obtain ⟨tt, htt⟩ : ∃ z : Trf, z = ⟨price, base, l, credit⟩ := ⟨_, rfl⟩
  have HOK : Hid (TrfOk tt) := Lib.hid (by rw [htt]; exact ok)
  have KM := Lib.hid (fun (u : Ux) W (h : Below w.heap.size w W) (hm : u ∈ us) => Make_yes price base l credit u.vals u.out pA tA u.A pc tn tc u.n u.c W ok (hin.next h) (hus u hm).len (hus u hm).val (hus u hm).out ((hu.v u hm).next h))
  have HKB : Hid (∀ u : Ux, billK price u.vals base l credit u.out = (encBl tt u).toArray) := Lib.hid (by intro u; rw [htt]; rfl)
  have HU := Lib.hid hu
  have HS := Lib.hid hus
  have HN : Hid (us.length = ln ∧ ln ≤ 64) := Lib.hid ⟨hu.l.1, by have := hu.l.1; omega⟩
  have d1 : ¬ ((64 : Int) < (ln : Int)) := by have := HN.out; omega
  obtain ⟨i0, hi0, hz0, hz1, hz2⟩ := info_parts billInfo
  have hi := Lib.hid (And.intro hi0 (And.intro hz0 (And.intro hz1 hz2)))
  have g1 : w.heap.size < w.heap.size + 1 := by omega
  have g2 : w.heap.size < w.heap.size + 1 + 1 := by omega
  have g3 : w.heap.size < w.heap.size + 1 + 1 + 1 := by omega
  rw [← htt]
  clear ok hin h64 hus hu hi0 hz0 hz1 hz2 htt
  go_enter Try.func28, Try.ntmps28
  go_wp2
  obtain ⟨tb, htb⟩ : ∃ z, z = w.heap.size := ⟨_, rfl⟩
  obtain ⟨w1, hw1⟩ : ∃ z, z = w.alloc (.cells #[.slice pA 24 pc, .int .i64 base, .slice tA tn tc, .int .i64 credit] 25) := ⟨_, rfl⟩
  have TB : Hid (Blk w1 tb 25 #[.slice pA 24 pc, .int .i64 base, .slice tA tn tc, .int .i64 credit]) := Lib.hid (by rw [hw1, htb]; exact heap_alloc_new w _)
  have Sw1 : Hid (w1.heap.size = tb + 1) := Lib.hid (by rw [hw1, htb, World.size_alloc])
  have Ztb : Hid (w.heap.size ≤ tb) := Lib.hid (by rw [htb]; exact Nat.le_refl _)
  have hBn : Below w.heap.size w w1 := by rw [hw1]; exact (Below.refl _ _).alloc (Nat.le_refl _) _
  rw [← hw1, ← htb]
  have B0 : Hid (Below w.heap.size w w1) := Lib.hid hBn
  clear hw1 htb hBn
  obtain ⟨rb, hrb⟩ : ∃ z, z = tb + 1 := ⟨_, rfl⟩
  obtain ⟨w2, hw2⟩ : ∃ z, z = w1.alloc (.cells #[.int .i64 0, .int .i64 0, .int .i64 0, .int .i64 0] 77) := ⟨_, rfl⟩
  have RB : Hid (Blk w2 rb 77 #[.int .i64 0, .int .i64 0, .int .i64 0, .int .i64 0]) := Lib.hid (by have e2 := heap_alloc_new w1 (.cells #[.int .i64 0, .int .i64 0, .int .i64 0, .int .i64 0] 77); rw [Sw1.out] at e2; rw [hw2, hrb]; exact e2)
  have Sw2 : Hid (w2.heap.size = rb + 1) := Lib.hid (by rw [hw2, hrb, World.size_alloc, Sw1.out])
  have Zrb : Hid (w1.heap.size = rb) := Lib.hid (by rw [Sw1.out, hrb])
  have hBn : Below w1.heap.size w1 w2 := by rw [hw2]; exact (Below.refl _ _).alloc (Nat.le_refl _) _
  rw [← hw2, ← hrb]
  have B1 : Hid (Below w1.heap.size w1 w2) := Lib.hid hBn
  clear hw2 hrb hBn
  obtain ⟨sb, hsb⟩ : ∃ z, z = rb + 1 := ⟨_, rfl⟩
  obtain ⟨w3, hw3⟩ : ∃ z, z = w2.alloc (.cells #[.int .i64 0, .int .i64 0, .int .i64 0, .int .i64 0] 77) := ⟨_, rfl⟩
  have SB : Hid (Blk w3 sb 77 #[.int .i64 0, .int .i64 0, .int .i64 0, .int .i64 0]) := Lib.hid (by have e2 := heap_alloc_new w2 (.cells #[.int .i64 0, .int .i64 0, .int .i64 0, .int .i64 0] 77); rw [Sw2.out] at e2; rw [hw3, hsb]; exact e2)
  have Sw3 : Hid (w3.heap.size = sb + 1) := Lib.hid (by rw [hw3, hsb, World.size_alloc, Sw2.out])
  have Zsb : Hid (w2.heap.size = sb) := Lib.hid (by rw [Sw2.out, hsb])
  have hBn : Below w2.heap.size w2 w3 := by rw [hw3]; exact (Below.refl _ _).alloc (Nat.le_refl _) _
  rw [← hw3, ← hsb]
  have B2 : Hid (Below w2.heap.size w2 w3) := Lib.hid hBn
  clear hw3 hsb hBn
  clear g1 g2 g3
  have HZ : Hid (w.heap.size ≤ tb ∧ tb < rb ∧ rb < sb ∧ w3.heap.size = sb + 1) := Lib.hid (by have h1 := Ztb.out; have h2 := Zrb.out; have h3 := Zsb.out; have h5 := Sw1.out; have h6 := Sw2.out; have h7 := Sw3.out; omega)
  have HB3 : Hid (Below w.heap.size w w3) := Lib.hid (below3 (below3 B0.out B1.out (Nat.le_refl _)) B2.out (Nat.le_refl _))
  have HT3 := Lib.hid (TB.out.below (below3 B1.out B2.out (Nat.le_refl _)) TB.out.lt)
  have HR3 := Lib.hid (RB.out.below B2.out RB.out.lt)
  have HC0 : Hid (Keep (fun b => b = sb) w3 w3 ∧ Blk w3 sb 77 (sumA tt (us.take 0)) ∧ w3.ownsRow w3.heap.size 77 4 (.slice none 0 0) 0 ((us.take 0).flatMap (encBl tt))) := Lib.hid ⟨Keep.refl _ _, SB.out, World.ownsRow_nil _ _ _ _⟩
  go_loopw [7, 19] (fun lv iv wr => ∃ (k : Nat) (A : Option Addr) (ca : Nat), k ≤ ln ∧ lv = .slice A k ca ∧ iv = .int .i64 ((k : Nat) : Int) ∧ Hid (Keep (fun b => b = sb) w3 wr ∧ Blk wr sb 77 (sumA tt (us.take k)) ∧ wr.ownsRow w3.heap.size 77 4 (.slice A k ca) k ((us.take k).flatMap (encBl tt)))) (fun _ iv _ => ln - (intOf iv).toNat)
  case atStart => exact ⟨0, none, 0, Nat.zero_le _, rfl, rfl, HC0⟩
  case round =>
    obtain ⟨k, A, ca, hk, rfl, rfl, HW⟩ := hrel
    have HB0 : Hid (Below w.heap.size w wr) := Lib.hid (HB3.out.trans (HW.out.1.below HB3.out.size (fun b e => by rw [e]; have := HZ.out; omega)))
    by_cases hlt : k < ln
    · have HLT : Hid (k < ln) := Lib.hid hlt
      have hk0 : (0 : Int) ≤ (k : Int) := by omega
      have hkn : (k : Int) < (ln : Int) := by omega
      have hk9 : (k : Int) ≤ 64 := by have := HN.out; omega
      obtain ⟨b, o, u, eA, hb, hx, hcx⟩ := (HU.out.next HB0.out).l.at_ hlt
      have c0 := hcx 0 _ rfl
      have c1 := hcx 1 _ rfl
      rw [Nat.add_zero] at c0
      have hm := List.mem_of_getElem? hx
      have HM := Lib.hid (fun W h => KM.out u W h hm)
      rw [HKB.out] at HM
      have HTK : Hid (us.take (k + 1) = us.take k ++ [u]) := Lib.hid (by rw [List.take_add_one, hx]; rfl)
      have hub := bill_bd HOK.out (HS.out u hm)
      have hsb : (bd15 (sumU bEn (us.take k)) ∧ bd15 (sumU (bAm tt) (us.take k)) ∧ bd15 (sumU (bCr tt) (us.take k)) ∧ bd15 (sumU (bDu tt) (us.take k))) := by
        have hl : (us.take k).length ≤ 64 := by rw [List.length_take]; have := HN.out; omega
        have hq : ∀ x ∈ us.take k, _ := fun x hx => bill_bd HOK.out (HS.out x (List.mem_of_mem_take hx))
        refine ⟨sumU_bd (fun x hx => ?_) hl, sumU_bd (fun x hx => ?_) hl, sumU_bd (fun x hx => ?_) hl, sumU_bd (fun x hx => ?_) hl⟩ <;> (have := hq x hx; omega)
      have KP := Lib.hid (plusB_any _ _ _ _ (bEn u) (bAm tt u) (bCr tt u) (bDu tt u) · hsb (by unfold bd15; omega))
      have HST : Hid (sumU bEn (us.take k) + bEn u = sumU bEn (us.take (k + 1)) ∧ sumU (bAm tt) (us.take k) + bAm tt u = sumU (bAm tt) (us.take (k + 1)) ∧ sumU (bCr tt) (us.take k) + bCr tt u = sumU (bCr tt) (us.take (k + 1)) ∧ sumU (bDu tt) (us.take k) + bDu tt u = sumU (bDu tt) (us.take (k + 1))) := Lib.hid (by rw [HTK.out]; exact ⟨(sumU_snoc _ _ _).symm, (sumU_snoc _ _ _).symm, (sumU_snoc _ _ _).symm, (sumU_snoc _ _ _).symm⟩)
      have HFL : Hid ((us.take (k + 1)).flatMap (encBl tt) = (us.take k).flatMap (encBl tt) ++ encBl tt u) := Lib.hid (by rw [HTK.out, List.flatMap_append]; simp)
      have hsbk := HW.out.2.1
      obtain ⟨uA, un, uc, vals, out⟩ := u
      obtain ⟨y1, hy1⟩ : ∃ z, z = bEn ⟨uA, un, uc, vals, out⟩ := ⟨_, rfl⟩
      obtain ⟨y2, hy2⟩ : ∃ z, z = bAm tt ⟨uA, un, uc, vals, out⟩ := ⟨_, rfl⟩
      obtain ⟨y3, hy3⟩ : ∃ z, z = bCr tt ⟨uA, un, uc, vals, out⟩ := ⟨_, rfl⟩
      obtain ⟨y4, hy4⟩ : ∃ z, z = bDu tt ⟨uA, un, uc, vals, out⟩ := ⟨_, rfl⟩
      obtain ⟨x1, hx1⟩ : ∃ z, z = sumU bEn (us.take k) := ⟨_, rfl⟩
      obtain ⟨x2, hx2⟩ : ∃ z, z = sumU (bAm tt) (us.take k) := ⟨_, rfl⟩
      obtain ⟨x3, hx3⟩ : ∃ z, z = sumU (bCr tt) (us.take k) := ⟨_, rfl⟩
      obtain ⟨x4, hx4⟩ : ∃ z, z = sumU (bDu tt) (us.take k) := ⟨_, rfl⟩
      unfold sumA at hsbk
      unfold encBl at HM
      rw [← hy1, ← hy2, ← hy3, ← hy4] at KP HST HM
      rw [← hx1, ← hx2, ← hx3, ← hx4] at KP HST hsbk
      have HEU : Hid (encBl tt ⟨uA, un, uc, vals, out⟩ = [.int .i64 y1, .int .i64 y2, .int .i64 y3, .int .i64 y4]) := Lib.hid (by unfold encBl; rw [← hy1, ← hy2, ← hy3, ← hy4])
      have HSB := Lib.hid hsbk
      dsimp only at HM c0 c1
      have hbt := HW.out.1.blk HT3.out (by have := HZ.out; omega)
      have HTR := Lib.hid hbt
      have t0 := hbt.cell 0
      have t1 := hbt.cell 1
      have t2 := hbt.cell 2
      have t3 := hbt.cell 3
      simp only [List.getElem?_toArray, List.getElem?_cons_zero, List.getElem?_cons_succ] at t0 t1 t2 t3
      have zt := hbt.lt
      have zb : b < wr.heap.size := hb
      have g1 : wr.heap.size < wr.heap.size + 1 := by omega
      clear hx hcx hm hub hsb hsbk hy1 hy2 hy3 hy4 hx1 hx2 hx3 hx4 hbt hb hk hlt
      subst eA
      go_wp2_with fail
      obtain ⟨wx, hwx⟩ : ∃ z, z = wr.alloc (.cells #[.slice uA un uc, .int .i64 out] 28) := ⟨_, rfl⟩
      have HBX : Hid (Below wr.heap.size wr wx) := Lib.hid (by rw [hwx]; exact (Below.refl _ _).alloc (Nat.le_refl _) _)
      rw [← hwx]
      clear hwx t0 t1 t2 t3 zt c0 c1 zb g1
      refine (HM.out wx (HB0.out.trans (HBX.out.mono HB0.out.size))).mono ?_
      rintro e w5 ⟨rfl, hB⟩
      have HB5 := Lib.hid (below3 HBX.out hB (Nat.le_refl _))
      clear hB
      have g1 : w5.heap.size < w5.heap.size + 1 := by omega
      have g2 : w5.heap.size < w5.heap.size + 1 + 1 := by omega
      have hown5 := own_keep HW.out.2.2 HB5.out
      have HO5 := Lib.hid hown5
      clear hown5
      have hz5 : w3.heap.size ≤ w5.heap.size := Nat.le_trans HW.out.1.size HB5.out.size
      go_wp2_with (at_builtin; refine wpList_append_own_at _ rfl (.tmp 33) (.tmp 35) 80 rfl w3.heap.size 77 i0 (.agg #[.int .i64 0, .int .i64 0, .int .i64 0, .int .i64 0]) 4 32 Try.underlying80 hi.out.1 hi.out.2.1 hi.out.2.2.1 hi.out.2.2.2 rfl (by decide) (.slice A k ca) k ((us.take k).flatMap (encBl tt)) rfl ((HO5.out.alloc _).alloc _) ⟨w5.heap.size + 1, 0, none⟩ 1 1 [.int .i64 y1, .int .i64 y2, .int .i64 y3, .int .i64 y4] rfl rfl ?_ ?_ ?_ ?_ ?_ ?_)
      case _ =>
        intro j z hz
        match j, hz with
        | 0, hz =>
          simp only [List.getElem?_cons_zero, Option.some.injEq] at hz
          subst hz
          simp [Addr.add, go_sem]
        | 1, hz =>
          simp only [List.getElem?_cons_zero, List.getElem?_cons_succ, Option.some.injEq] at hz
          subst hz
          simp [Addr.add, go_sem]
        | 2, hz =>
          simp only [List.getElem?_cons_zero, List.getElem?_cons_succ, Option.some.injEq] at hz
          subst hz
          simp [Addr.add, go_sem]
        | 3, hz =>
          simp only [List.getElem?_cons_zero, List.getElem?_cons_succ, Option.some.injEq] at hz
          subst hz
          simp [Addr.add, go_sem]
      case _ => (intro z hz; simp only [List.mem_cons, List.mem_nil_iff, or_false] at hz; rcases hz with rfl | rfl | rfl | rfl <;> rfl)
      case _ => simp only [maxLen]; omega
      case _ => omega
      case _ => simp only [World.size_alloc]; omega
      intro v' wy hown hg8 _ _
      obtain ⟨A9, c9, rfl⟩ := row_slice hown
      have hX : Below wr.heap.size wr ((w5.alloc (.cells #[.int .i64 y1, .int .i64 y2, .int .i64 y3, .int .i64 y4] 77)).alloc (.cells #[.int .i64 y1, .int .i64 y2, .int .i64 y3, .int .i64 y4] 77)) := (HB5.out.alloc HB5.out.size _).alloc (by simp only [World.size_alloc]; have := HB5.out.size; omega) _
      have HLY : Hid (Below w3.heap.size wr wy) := Lib.hid ((hX.mono HW.out.1.size).grown hg8 (by have := hX.size; have := HW.out.1.size; omega) (fun r e => (World.ownsRow.lt HW.out.2.2 r e).1))
      have HSY : Hid (Blk wy sb 77 #[.int .i64 x1, .int .i64 x2, .int .i64 x3, .int .i64 x4]) := Lib.hid (HSB.out.below HLY.out (by have := HZ.out; omega))
      have HQY : Hid (Blk wy w5.heap.size 77 #[.int .i64 y1, .int .i64 y2, .int .i64 y3, .int .i64 y4]) := Lib.hid (by
        have e1 : Blk ((w5.alloc (.cells #[.int .i64 y1, .int .i64 y2, .int .i64 y3, .int .i64 y4] 77)).alloc (.cells #[.int .i64 y1, .int .i64 y2, .int .i64 y3, .int .i64 y4] 77)) w5.heap.size 77 #[.int .i64 y1, .int .i64 y2, .int .i64 y3, .int .i64 y4] := (show Blk (w5.alloc _) w5.heap.size 77 _ from heap_alloc_new w5 _).alloc _
        exact (hg8.block _ e1.lt (fun e => by have h1 := (World.ownsRow.lt HW.out.2.2 _ e.symm).2; have := HB5.out.size; omega)).trans e1)
      have HOY : Hid (wy.ownsRow w3.heap.size 77 4 (.slice A9 (k + 1) c9) (k + 1) ((us.take (k + 1)).flatMap (encBl tt))) := Lib.hid (by rw [HFL.out, HEU.out]; exact hown)
      have e0 := HSY.out.cell 0
      have e1 := HSY.out.cell 1
      have e2 := HSY.out.cell 2
      have e3 := HSY.out.cell 3
      have f0 := HQY.out.cell 0
      have f1 := HQY.out.cell 1
      have f2 := HQY.out.cell 2
      have f3 := HQY.out.cell 3
      simp only [List.getElem?_toArray, List.getElem?_cons_zero, List.getElem?_cons_succ] at e0 e1 e2 e3 f0 f1 f2 f3
      have zs := HSY.out.lt
      have zq := HQY.out.lt
      obtain ⟨qb, hqb⟩ : ∃ z, z = w5.heap.size := ⟨_, rfl⟩
      rw [← hqb] at f0 f1 f2 f3 zq
      rw [← hqb]
      clear hX hown hg8 hz5 g1 g2 hqb
      go_wp2_with fail
      refine (KP.out wy).mono ?_
      rintro e w7 ⟨rfl, hB⟩
      clear e0 e1 e2 e3 f0 f1 f2 f3 zs zq
      have HB7 := Lib.hid hB
      have HS7 := Lib.hid (HSY.out.below hB HSY.out.lt)
      have HO7 := Lib.hid (own_keep HOY.out hB)
      clear hB
      rw [HST.out.1, HST.out.2.1, HST.out.2.2.1, HST.out.2.2.2]
      obtain ⟨z1, hz1⟩ : ∃ z, z = sumU bEn (us.take (k + 1)) := ⟨_, rfl⟩
      obtain ⟨z2, hz2⟩ : ∃ z, z = sumU (bAm tt) (us.take (k + 1)) := ⟨_, rfl⟩
      obtain ⟨z3, hz3⟩ : ∃ z, z = sumU (bCr tt) (us.take (k + 1)) := ⟨_, rfl⟩
      obtain ⟨z4, hz4⟩ : ∃ z, z = sumU (bDu tt) (us.take (k + 1)) := ⟨_, rfl⟩
      have HSA : Hid (sumA tt (us.take (k + 1)) = #[.int .i64 z1, .int .i64 z2, .int .i64 z3, .int .i64 z4]) := Lib.hid (by unfold sumA; rw [← hz1, ← hz2, ← hz3, ← hz4])
      rw [← hz1, ← hz2, ← hz3, ← hz4]
      clear hz1 hz2 hz3 hz4
      have d0 := HS7.out.cell 0
      have d1 := HS7.out.cell 1
      have d2 := HS7.out.cell 2
      have d3 := HS7.out.cell 3
      simp only [List.getElem?_toArray, List.getElem?_cons_zero, List.getElem?_cons_succ] at d0 d1 d2 d3
      have zs := HS7.out.lt
      have fs := HS7.out.frozen
      obtain ⟨W', hW'⟩ : ∃ z, z = (((w7.setCell ⟨sb, 0, none⟩ (.int .i64 z1)).setCell ⟨sb, 1, none⟩ (.int .i64 z2)).setCell ⟨sb, 2, none⟩ (.int .i64 z3)).setCell ⟨sb, 3, none⟩ (.int .i64 z4) := ⟨_, rfl⟩
      have hk9 : Keep (fun b => b = sb) w7 W' := by rw [hW']; exact ((((Keep.refl (fun b => b = sb) w7).setCell rfl _).setCell rfl _).setCell rfl _).setCell rfl _
      have HN9 : Hid (Keep (fun b => b = sb) w3 W' ∧ Blk W' sb 77 (sumA tt (us.take (k + 1))) ∧ W'.ownsRow w3.heap.size 77 4 (.slice A9 (k + 1) c9) (k + 1) ((us.take (k + 1)).flatMap (encBl tt))) := Lib.hid ⟨(keep_low (keep_low HW.out.1 HLY.out) (HB7.out.mono (Nat.le_trans HW.out.1.size HLY.out.size))).trans hk9, by
        rw [HSA.out, hW']
        have h := (((HS7.out.set_ 0 (.int .i64 z1)).set_ 1 (.int .i64 z2)).set_ 2 (.int .i64 z3)).set_ 3 (.int .i64 z4)
        simpa using h, HO7.out.kept (keep_grown hk9) (by
        rcases HO7.out.2 with ⟨e, _⟩ | ⟨g, cap, cur, e, hg, _⟩
        · left; rw [e]; rfl
        · right; rw [e]; intro h9; have h8 : g = sb := Option.some.inj h9; have := HZ.out; omega)⟩
      clear hk9
      go_wp2
      rw [← hW']
      go_roundw
      case rel => exact ⟨k + 1, A9, c9, by have := HLT.out; omega, rfl, by go_num, HN9⟩
      case measure => have := HLT.out; simp [intOf]; omega
    · obtain rfl : ln = k := by omega
      have HTL : Hid (us.take ln = us) := Lib.hid (List.take_of_length_le (by rw [HN.out.1]; exact Nat.le_refl _))
      have hsb := HW.out.2.1
      obtain ⟨sv, hsv⟩ : ∃ z, z = sumA tt us := ⟨_, rfl⟩
      rw [HTL.out, ← hsv] at hsb
      have hs4 : ∃ s1 s2 s3 s4 : Int, sv = #[.int .i64 s1, .int .i64 s2, .int .i64 s3, .int .i64 s4] := ⟨_, _, _, _, hsv⟩
      obtain ⟨s1, s2, s3, s4, hs4⟩ := hs4
      rw [hs4] at hsv hsb
      have HSV := Lib.hid hsv
      have HSB := Lib.hid hsb
      have HRB := Lib.hid (HW.out.1.blk HR3.out (by have := HZ.out; omega))
      clear hsb hsv hs4 hk hlt
      go_wp2
      refine wp_region_free10 4 (by kernel_rfl) [some 41, some 42, some 4, none, some 6] [[], [], [0, 0], [1, 2, 0, 1, 2], [3, 0, 1, 2, 3]] [(7, .slice A ln ca), (8, .pointer (some ⟨sb, 0, none⟩)), (5, .pointer (some ⟨rb, 0, none⟩))] (fun W γ => Keep (fun b => b = rb) wr W ∧ (γ 0 = 0 → Blk W rb 77 #[.int .i64 0, .int .i64 0, .int .i64 0, .int .i64 0])) (t14Phi A ln ca rb #[.int .i64 s1, .int .i64 s2, .int .i64 s3, .int .i64 s4]) (fun i _ γ => i = 3 → γ 0 = 0) (by kernel_rfl) (by kernel_rfl) rfl (by kernel_rfl) ?_ ?_ ⟨fun _ => 0, ⟨Keep.of_below (Below.refl _ _).drew, fun _ => HRB.out.below (Below.refl _ _).drew HRB.out.lt⟩, fun i _ _ => rfl⟩ ?_ ?_
      · intro z hz
        simp only [List.mem_cons, List.mem_nil_iff, or_false] at hz
        rcases hz with rfl | rfl | rfl
        all_goals exact ⟨by kernel_rfl, rfl⟩
      · intro i v W γ hi h
        rcases i with _ | _ | _ | _ | _ | i
        all_goals first | exact h | (simp at hi)
      · refine ⟨?_, ?_, ?_, ?_, ?_, trivial⟩
        all_goals
          intro a9 W γ ev hcc hff hfx hR hψ hpre
          simp only [List.mem_cons, List.mem_nil_iff, or_false, forall_eq, forall_eq_or_imp] at hfx
          obtain ⟨f0, f1, f2⟩ := hfx
          have HR := Lib.hid hR
          clear hR
        · refine ⟨fun hg K hK => ?_, trivial⟩
          clear hg
          clear hpre hψ
          go_simp
          exact hK _ _ γ HR.out (fun _ _ _ _ h => h) (fun _ _ _ h => h) rfl
        · refine ⟨fun hg K hK => ?_, trivial⟩
          clear hg
          have hbk := HR.out.1.blk HSB.out (by have := HZ.out; omega)
          have e0 := hbk.cell 0
          have e1 := hbk.cell 1
          have e2 := hbk.cell 2
          have e3 := hbk.cell 3
          simp only [List.getElem?_toArray, List.getElem?_cons_zero, List.getElem?_cons_succ] at e0 e1 e2 e3
          have ze := hbk.lt
          clear hbk
          clear hpre hψ
          go_simp
          exact hK _ _ γ HR.out (fun _ _ _ _ h => h) (fun _ _ _ h => h) rfl
        · refine ⟨fun hg K hK => ?_, trivial⟩
          clear hg
          have q0 : ev (.tmp 41) = _ := hpre 0 (by decide)
          clear hpre hψ
          go_simp
          exact hK _ _ γ HR.out (fun _ _ _ _ h => h) (fun _ _ _ h => h) rfl
        · refine ⟨fun hg K hK => ?_, trivial⟩
          clear hg
          have q0 : ev (.tmp 42) = _ := hpre 1 (by decide)
          have hbb := HR.out.2 (hψ rfl)
          have zl := hbb.lt
          have fl9 := hbb.frozen
          have e0 := hbb.cell 0
          have e1 := hbb.cell 1
          have e2 := hbb.cell 2
          have e3 := hbb.cell 3
          simp only [List.getElem?_toArray, List.getElem?_cons_zero, List.getElem?_cons_succ] at e0 e1 e2 e3
          have HR9 := Lib.hid (And.intro HR.out.1 hbb)
          clear hpre hψ hbb
          go_simp
          refine hK undef _ (fun _ => 1) ⟨(((HR9.out.1.setCell (p := ⟨rb, 0, none⟩) rfl _).setCell (p := ⟨rb, 1, none⟩) rfl _).setCell (p := ⟨rb, 2, none⟩) rfl _).setCell (p := ⟨rb, 3, none⟩) rfl _, fun e => by simp at e⟩ (fun j u _ hne h => t14Phi_w hne h) (fun _ j hj h e => absurd e hj) ?_
          show Blk _ rb 77 _
          have h := (((HR9.out.2.set_ 0 (.int .i64 s1)).set_ 1 (.int .i64 s2)).set_ 2 (.int .i64 s3)).set_ 3 (.int .i64 s4)
          simpa using h
        · refine ⟨fun hg K hK => ?_, trivial⟩
          clear hg
          clear hpre hψ
          go_simp
          exact hK _ _ γ HR.out (fun _ _ _ _ h => h) (fun _ _ _ h => h) rfl
      · intro vs wy γ hvl hR hφ
        have q2 := hφ 2 (by decide)
        have q3 := hφ 3 (by decide)
        have q4 := hφ 4 (by decide)
        have HR := Lib.hid hR
        clear hφ hR
        match vs, hvl with
        | [y0, y1, y2, y3, y4], _ =>
        simp only [List.getD_cons_zero, List.getD_cons_succ] at q2 q3 q4
        obtain rfl : y2 = _ := q2
        obtain rfl : y4 = _ := q4
        have HF : Hid (Blk wy rb 77 #[.int .i64 s1, .int .i64 s2, .int .i64 s3, .int .i64 s4]) := Lib.hid q3
        have HE : Hid (wy.ownsRow w.heap.size 77 4 (.slice A ln ca) ln (us.flatMap (encBl tt)) ∧ Below w.heap.size w wy) := Lib.hid ⟨by
          have h9 := HW.out.2.2
          rw [HTL.out] at h9
          exact row_low (h9.kept (keep_grown HR.out.1) (by
            rcases h9.2 with ⟨e, _⟩ | ⟨g, cap, cur, e, hg, _⟩
            · left; rw [e]; rfl
            · right; rw [e]; intro h7; have h8 : g = rb := Option.some.inj h7; have := HZ.out; omega)) HB3.out.size, HB0.out.trans (HR.out.1.below HB0.out.size (fun b e => by rw [e]; have := HZ.out; omega))⟩
        clear HR q3
        simp [putAll]
        go_wp2
        have x0 := HF.out.cell 0
        have x1 := HF.out.cell 1
        have x2 := HF.out.cell 2
        have x3 := HF.out.cell 3
        simp only [List.getElem?_toArray, List.getElem?_cons_zero, List.getElem?_cons_succ] at x0 x1 x2 x3
        refine bodyPost_ret (v := .tuple #[.slice A ln ca, .agg #[.int .i64 s1, .int .i64 s2, .int .i64 s3, .int .i64 s4], .int .i64 0]) ?_ rfl ?_
        · simp [results, Try.results28, go_sem, x0, x1, x2, x3]
        · exact ⟨A, ca, by rw [HSV.out], HE.out⟩
end Go.Proofs.Ytcecbohaajocfaa
