/- keep: all with a closure; rank, delays. -/
import Derived.Test.YtalngalikblgkaaKpI

set_option linter.unusedSimpArgs false
set_option linter.unusedVariables false
namespace Go.Proofs.Ytalngalikblgkaa
open Go.RowKit

/-- A closure of two variables: called with each number of a list it answers what p says, and keeps memory. -/
def AnsB2 (w : World) (m : FuncId) (f1 f2 : Value) (p : Int → Bool) (l : List Int) : Prop :=
  ∀ x ∈ l, ∀ W, Below w.heap.size w W → Calls Try.prog m #[.int .i64 x, f1, f2] W fun e w' => e = .returned (.bool (p x)) ∧ Below W.heap.size W w'
set_option maxRecDepth 100000 in
theorem AnsB2.next {w w' : World} {m : FuncId} {f1 f2 : Value} {p : Int → Bool} {l : List Int} (h : AnsB2 w m f1 f2 p l) (hb : Below w.heap.size w w') : AnsB2 w' m f1 f2 p l := fun x hx W hW => h x hx W (below3 hb hW (Nat.le_refl _))
set_option maxRecDepth 100000 in
theorem all1_any2 (m : FuncId) (f1 f2 : Value) (p : Int → Bool) (x : Int) (bx : Nat) (w : World) (eg : ∀ args W, Sem.run Try.prog (callFunc m args) W = .ok (.enter m args) W) (hx : AnsB2 w m f1 f2 p [x]) (hb : bx < w.heap.size) (hc : w.cell? ⟨bx, 0, none⟩ = some (.func (.func m) #[] #[f1, f2])) :
    Calls Try.prog 74 #[.int .i64 x, .pointer (some ⟨bx, 0, none⟩)] w fun e w' => e = .returned (.bool (!p x)) ∧ Below w.heap.size w w' := by
  have K := Lib.hid (fun W => hx x (List.mem_singleton.2 rfl) W)
  clear hx
  go_enter Try.func74, Try.ntmps74
  go_wp2_with fail
  refine (K.out _ (by (repeat' (first | (with_reducible exact Below.refl _ _) | (with_reducible assumption) | (with_reducible refine below_drewN ?_ _) | (with_reducible refine below_after (by assumption) ?_ ?_) | (with_reducible refine Below.drew ?_) | (with_reducible refine Below.alloc ?_ ?_ _) | (with_reducible refine Below.setCell ?_ ?_ _) | omega | (simp; omega) | (simp; done))))).mono ?_
  rintro e w2 ⟨rfl, hB⟩
  have HB : Hid (Below w.heap.size w w2) := Lib.hid hB
  clear hB
  go_wp2
  go_ret
  exact ⟨rfl, HB.out⟩
set_option maxRecDepth 100000 in
theorem index_any2 (A : Option Addr) (n c : Nat) (l : List Int) (m : FuncId) (f1 f2 : Value) (p : Int → Bool) (bx : Nat) (w : World) (eg : ∀ args W, Sem.run Try.prog (callFunc m args) W = .ok (.enter m args) W) (hl : Rd w w.heap.size 1 encI A n l) (hn : n ≤ 1000000000) (hok : AnsB2 w m f1 f2 p l) (hb : bx < w.heap.size) (hc : w.cell? ⟨bx, 0, none⟩ = some (.func (.func m) #[] #[f1, f2])) :
    Calls Try.prog 81 #[.slice A n c, .func (.func 74) #[] #[.pointer (some ⟨bx, 0, none⟩)]] w fun e w' => ∃ r : Int, e = .returned (.int .i64 r) ∧ decide (0 ≤ r) = (!l.all p) ∧ Below w.heap.size w w' := by
  have HL := Lib.hid hl
  have HO := Lib.hid hok
  have HC := Lib.hid hc
  have HLN := Lib.hid hl.1
  have EG := Lib.hid eg
  have e2 : ∀ args W, Sem.run Try.prog (callFunc 74 args) W = .ok (.enter 74 args) W := enters_of Try.func74 (by kernel_rfl) rfl
  clear hl hok hc eg
  go_enter Try.func81, Try.ntmps81
  go_wp2
  go_loopw [8] (fun i wr => ∃ k : Nat, k ≤ n ∧ i = .int .i64 k ∧ Hid (Below w.heap.size w wr ∧ (l.take k).all p = true)) (fun i _ => n - (intOf i).toNat)
  case atStart => exact ⟨0, by omega, rfl, Lib.hid ⟨Below.refl _ _, by simp⟩⟩
  case round =>
    obtain ⟨k, hk, rfl, hB⟩ := hrel
    have hz := hB.out.1.size
    by_cases hlt : k < n
    · obtain ⟨b, off, x, e1, hb2, hx, hcx⟩ := (HL.out.below hB.out.1).at_ hlt
      have K := Lib.hid (all1_any2 m f1 f2 p x bx wr EG.out (fun y hy W hW => HO.out y (by rw [List.mem_singleton.1 hy]; exact List.mem_of_getElem? hx) W (below3 hB.out.1 hW (Nat.le_refl _))) (by omega) ((hB.out.1.cell (p := ⟨bx, 0, none⟩) hb).trans HC.out))
      have x0 := cellI hcx
      have zb : b < wr.heap.size := by omega
      have hk0 : (0 : Int) ≤ (k : Int) := by omega
      have hkn : (k : Int) < (n : Int) := by omega
      have HX := Lib.hid hx
      obtain ⟨q, hq⟩ : ∃ q, q = p x := ⟨_, rfl⟩
      have HQ := Lib.hid hq
      rw [← hq] at K
      subst e1
      clear hx hcx hq hb2
      cases q
      · go_wp2_with fail
        refine K.out.mono ?_
        rintro e w2 ⟨rfl, hB2⟩
        have HB2 := Lib.hid (below3 hB.out.1 hB2 (Nat.le_refl _))
        clear hB2
        go_wp2
        go_ret
        exact ⟨(k : Int), rfl, by rw [not_all HX.out HQ.out.symm]; simp, HB2.out⟩
      · go_wp2_with fail
        refine K.out.mono ?_
        rintro e w2 ⟨rfl, hB2⟩
        have HB2 := Lib.hid (And.intro (below3 hB.out.1 hB2 (Nat.le_refl _)) (take_all hB.out.2 HX.out HQ.out.symm))
        clear hB2
        go_wp2
        go_roundw
        case rel => exact ⟨k + 1, by omega, by go_num, HB2⟩
        case measure => simp [intOf]; omega
    · obtain rfl : n = k := by omega
      go_wp2
      go_ret
      exact ⟨-1, rfl, by have h := hB.out.2; rw [List.take_of_length_le (by rw [HLN.out]; exact Nat.le_refl _)] at h; rw [h]; rfl, hB.out.1⟩
set_option maxRecDepth 100000 in
theorem all_any2 (A : Option Addr) (n c : Nat) (l : List Int) (m : FuncId) (f1 f2 : Value) (p : Int → Bool) (w : World) (eg : ∀ args W, Sem.run Try.prog (callFunc m args) W = .ok (.enter m args) W) (hl : Rd w w.heap.size 1 encI A n l) (hn : n ≤ 1000000000) (hok : AnsB2 w m f1 f2 p l) :
    Calls Try.prog 51 #[.slice A n c, .func (.func m) #[] #[f1, f2]] w fun e w' => e = .returned (.bool (l.all p)) ∧ Below w.heap.size w w' := by
  obtain ⟨r, hr⟩ : ∃ r, r = l.all p := ⟨_, rfl⟩
  have KC : Hid (∀ (W : World) (bx : Nat) (hW : Below w.heap.size w W) (hb : bx < W.heap.size) (hc : W.cell? ⟨bx, 0, none⟩ = some (.func (.func m) #[] #[f1, f2])), Calls Try.prog 73 #[.slice A n c, .func (.func 74) #[] #[.pointer (some ⟨bx, 0, none⟩)]] W fun e w' => e = .returned (.bool (!r)) ∧ Below W.heap.size W w') := Lib.hid (by
    intro W bx hW hb hc
    have K := Lib.hid (index_any2 A n c l m f1 f2 p bx W eg (hl.next hW) hn (hok.next hW) hb hc)
    rw [← hr] at K
    clear hc hr hok hl eg
    go_enter Try.func73, Try.ntmps73
    go_wp2_with fail
    refine K.out.mono ?_
    rintro e w2 ⟨i, rfl, hi, hB⟩
    have HB := Lib.hid hB
    clear hB
    go_wp2
    go_ret
    exact ⟨rfl, HB.out⟩)
  rw [← hr]
  clear hl hok hr
  go_enter Try.func51, Try.ntmps51
  go_wp2_with fail
  refine (KC.out _ w.heap.size (by (repeat' (first | (with_reducible exact Below.refl _ _) | (with_reducible assumption) | (with_reducible refine below_drewN ?_ _) | (with_reducible refine below_after (by assumption) ?_ ?_) | (with_reducible refine Below.drew ?_) | (with_reducible refine Below.alloc ?_ ?_ _) | (with_reducible refine Below.setCell ?_ ?_ _) | omega | (simp; omega) | (simp; done)))) (by simp) (by simp [go_sem])).mono ?_
  rintro e w2 ⟨rfl, hB⟩
  have HB : Hid (Below w.heap.size w w2) := Lib.hid (((Below.refl w.heap.size w).alloc (Nat.le_refl _) _).trans (hB.mono (by simp)))
  clear hB
  go_wp2
  go_ret
  exact ⟨ret_bool (by simp), HB.out⟩
/-- The rank of what follows and is not in. -/
def rankB (rnk : List Int) (x : Int) : Int := if x = -1 then -1 else rnk.getD x.toNat 0
theorem rank_any (S C H : Int) (nA gA iA cA rA : Option Addr) (nn nc gn gc iN ic cn cc rn rc : Nat) (rnk : List Int) (x : Int) (w : World) (hR : Rd w w.heap.size 1 encI rA rn rnk) (hx : -1 ≤ x ∧ x < rn) :
    Calls Try.prog 83 #[.agg #[.int .i64 S, .int .i64 C, .int .i64 H, .slice nA nn nc, .slice gA gn gc, .slice iA iN ic, .slice cA cn cc, .slice rA rn rc], .int .i64 x] w fun e w' => e = .returned (.int .i64 (rankB rnk x)) ∧ Below w.heap.size w w' := by
  by_cases h1 : x = -1
  · have h2 : rankB rnk x = -1 := if_pos h1
    rw [h2]
    subst h1
    clear hR hx h2
    go_enter Try.func83, Try.ntmps83
    go_wp2
    go_ret
    exact ⟨rfl, by (repeat' (first | (with_reducible exact Below.refl _ _) | (with_reducible assumption) | (with_reducible refine below_drewN ?_ _) | (with_reducible refine below_after (by assumption) ?_ ?_) | (with_reducible refine Below.drew ?_) | (with_reducible refine Below.alloc ?_ ?_ _) | (with_reducible refine Below.setCell ?_ ?_ _) | omega | (simp; omega) | (simp; done)))⟩
  · obtain ⟨k, rfl⟩ : ∃ k : Nat, x = (k : Int) := ⟨x.toNat, by omega⟩
    have hk : k < rn := by omega
    obtain ⟨b, off, y, e1, hb, hy, hcy⟩ := hR.at_ hk
    have h2 : rankB rnk (k : Int) = y := by
      unfold rankB
      rw [if_neg h1, List.getD_eq_getElem?_getD, Int.toNat_natCast, hy]
      rfl
    rw [h2]
    have c0 := cellI hcy
    have q1 : ((k : Int) == -1) = false := beq_eq_false_iff_ne.2 h1
    have q2 : (0 : Int) ≤ (k : Int) := by omega
    have q3 : (k : Int) < (rn : Int) := by omega
    have q4 := block_of_cell c0
    dsimp only at q4
    subst e1
    clear hR hx hy hcy h1 h2
    go_enter Try.func83, Try.ntmps83
    go_wp2
    go_ret
    exact ⟨rfl, by (repeat' (first | (with_reducible exact Below.refl _ _) | (with_reducible assumption) | (with_reducible refine below_drewN ?_ _) | (with_reducible refine below_after (by assumption) ?_ ?_) | (with_reducible refine Below.drew ?_) | (with_reducible refine Below.alloc ?_ ?_ _) | (with_reducible refine Below.setCell ?_ ?_ _) | omega | (simp; omega) | (simp; done)))⟩
/-- Whether a shock's state is no step nearer to the end. -/
def delB (inn : List Bool) (rnk : List Int) (r x : Int) : Bool := isInB inn x || decide (r ≤ rankB rnk x)
def dlPhi (c8 : Value) (bc : Nat) (x r y : Int) (lb lo s : Nat) (rA : Option Addr) (rn rc : Nat) (g1 g2 : Bool) : Nat → Value → World → (Nat → Nat) → Prop
  | 0, v, _, _ => v = c8
  | 1, v, _, _ => v = .int .i64 x
  | 2, v, _, _ => v = .bool g1
  | 3, v, _, _ => v = .bool g1
  | 4, v, _, _ => g1 = false → v = c8
  | 5, v, _, _ => g1 = false → v = .int .i64 x
  | 6, v, _, _ => g1 = false → v = .int .i64 y
  | 7, v, _, _ => g1 = false → v = .pointer (some ⟨bc, 5, none⟩)
  | 8, v, _, _ => g1 = false → v = .pointer (some ⟨bc, 7, none⟩)
  | 9, v, _, _ => g1 = false → v = .slice (some ⟨lb, lo, none⟩) rn rc
  | 10, v, _, _ => g1 = false → v = .int .i64 (s : Int)
  | 11, v, _, _ => g1 = false → v = .pointer (some ⟨lb, lo + s, none⟩)
  | 12, v, _, _ => g1 = false → v = .int .i64 r
  | 13, v, _, _ => g1 = false → v = .bool g2
  | 14, v, _, _ => v = .bool (g1 || g2)
  | 15, v, _, _ => v = .bool (g1 || g2)
  | _, _, _, _ => True
theorem dlPhi_w {c8 : Value} {bc : Nat} {x r y : Int} {lb lo s : Nat} {rA : Option Addr} {rn rc : Nat} {g1 g2 : Bool} {j : Nat} {v : Value} {W W' : World} {γ γ' : Nat → Nat} (h : dlPhi c8 bc x r y lb lo s rA rn rc g1 g2 j v W γ) : dlPhi c8 bc x r y lb lo s rA rn rc g1 g2 j v W' γ' := by
  unfold dlPhi at h ⊢
  split at h <;> first | exact h | trivial
set_option maxRecDepth 100000 in
set_option maxHeartbeats 2000000 in
theorem delays1_any (S C H : Nat) (nA gA iA cA rA : Option Addr) (nn nc gn gc iN ic cn cc rn rc : Nat) (inn : List Bool) (rnk : List Int) (x : Int) (s bc bs : Nat) (w : World) (hc : Blk w bc 92 #[.int .i64 (S : Int), .int .i64 (C : Int), .int .i64 (H : Int), .slice nA nn nc, .slice gA gn gc, .slice iA iN ic, .slice cA cn cc, .slice rA rn rc]) (hs : Blk w bs 3 #[.int .i64 (s : Int)]) (hI : Rd w w.heap.size 1 encB iA iN inn) (hR : Rd w w.heap.size 1 encI rA rn rnk) (hx : -1 ≤ x ∧ x < iN) (hr : rn = iN) (hsn : s < iN) :
    Calls Try.prog 85 #[.int .i64 x, .pointer (some ⟨bc, 0, none⟩), .pointer (some ⟨bs, 0, none⟩)] w fun e w' => e = .returned (.bool (delB inn rnk (rnk.getD s 0) x)) ∧ Below w.heap.size w w' := by
  have KI := Lib.hid (fun W (h : Below w.heap.size w W) => isIn_any S C H nA gA iA cA rA nn nc gn gc iN ic cn cc rn rc inn x W (hI.next h) hx)
  have KR := Lib.hid (fun W (h : Below w.heap.size w W) => rank_any S C H nA gA iA cA rA nn nc gn gc iN ic cn cc rn rc rnk x W (hR.next h) (by omega))
  obtain ⟨lb, lo, r, e1, hlb, hxr, hcr⟩ := hR.at_ (show s < rn by omega)
  have hgr : rnk.getD s 0 = r := by rw [List.getD_eq_getElem?_getD, hxr]; rfl
  rw [hgr]
  have HC := Lib.hid hc
  have HS := Lib.hid hs
  have HCR : Hid (lb < w.heap.size ∧ w.cell? ⟨lb, lo + s, none⟩ = some (.int .i64 r)) := Lib.hid ⟨hlb, cellI hcr⟩
  obtain ⟨g1, hg1⟩ : ∃ z, z = isInB inn x := ⟨_, rfl⟩
  obtain ⟨y, hy⟩ : ∃ z, z = rankB rnk x := ⟨_, rfl⟩
  obtain ⟨g2, hg2⟩ : ∃ z, z = decide (r ≤ y) := ⟨_, rfl⟩
  have hres : delB inn rnk r x = (g1 || g2) := by unfold delB; rw [hg2, hy, hg1]
  rw [hres]
  rw [← hg1] at KI
  rw [← hy] at KR
  have HG2 := Lib.hid hg2
  subst e1
  have i1 : (0 : Int) ≤ (s : Int) := by omega
  have i2 : (s : Int) < (rn : Int) := by omega
  clear hc hs hI hR hx hr hsn hlb hxr hcr hgr hg1 hy hg2 hres
  go_enter Try.func85, Try.ntmps85
  go_wp2
  refine wp_region_free10 15 (by kernel_rfl) [some 5, some 6, some 7, some 8, some 9, some 10, some 11, some 12, some 13, some 14, some 15, some 16, some 17, some 18, some 19, some 4] [[], [], [0, 1], [2, 2], [3], [3], [4, 5, 3, 3], [3], [7, 3], [8, 3], [3], [9, 10, 3], [11, 3], [6, 12, 3], [3, 13], [14, 6, 0, 1, 2, 3, 4, 5, 6, 7, 8, 9, 10, 11, 12, 13, 14]] [(1, .pointer (some ⟨bc, 0, none⟩)), (2, .pointer (some ⟨bs, 0, none⟩)), (0, .int .i64 x)] (fun W _ => Below w.heap.size w W) (dlPhi (.agg #[.int .i64 (S : Int), .int .i64 (C : Int), .int .i64 (H : Int), .slice nA nn nc, .slice gA gn gc, .slice iA iN ic, .slice cA cn cc, .slice (some ⟨lb, lo, none⟩) rn rc]) bc x r y lb lo s (some ⟨lb, lo, none⟩) rn rc g1 g2) (fun _ _ _ => True) (by kernel_rfl) (by kernel_rfl) rfl (by kernel_rfl) ?_ ?_ ⟨fun _ => 0, (Below.refl _ _).drew, fun i _ => trivial⟩ ?_ ?_
  · intro z hz
    simp only [List.mem_cons, List.mem_nil_iff, or_false] at hz
    rcases hz with rfl | rfl | rfl
    all_goals exact ⟨by kernel_rfl, rfl⟩
  · intro i v W γ hi h
    rcases i with _ | _ | _ | _ | _ | _ | _ | _ | _ | _ | _ | _ | _ | _ | _ | _ | i
    all_goals first | exact h | (simp at hi)
  · refine ⟨?_, ?_, ?_, ?_, ?_, ?_, ?_, ?_, ?_, ?_, ?_, ?_, ?_, ?_, ?_, ?_, trivial⟩
    all_goals
      intro a9 W γ ev hcc hff hfx hR hψ hpre
      simp only [List.mem_cons, List.mem_nil_iff, or_false, forall_eq, forall_eq_or_imp] at hfx
      obtain ⟨f0, f1, f2⟩ := hfx
      have HR := Lib.hid hR
      clear hR
    · refine ⟨fun hg K hK => ?_, trivial⟩
      clear hg
      have hbk := HC.out.below (show Below w.heap.size w W from HR.out) HC.out.lt
      have hzg := hbk.lt
      have e0 := hbk.cell 0
      have e1 := hbk.cell 1
      have e2 := hbk.cell 2
      have e3 := hbk.cell 3
      have e4 := hbk.cell 4
      have e5 := hbk.cell 5
      have e6 := hbk.cell 6
      have e7 := hbk.cell 7
      simp only [List.getElem?_toArray, List.getElem?_cons_zero, List.getElem?_cons_succ] at e0 e1 e2 e3 e4 e5 e6 e7
      clear hbk
      clear hpre hψ
      go_simp
      exact hK _ _ γ HR.out (fun _ _ _ _ h => h) (fun _ _ _ h => h) rfl
    · refine ⟨fun hg K hK => ?_, trivial⟩
      clear hg
      clear hpre hψ
      go_simp
      exact hK _ _ γ HR.out (fun _ _ _ _ h => h) (fun _ _ _ h => h) rfl
    · refine ⟨fun hg K hK => ?_, trivial⟩
      clear hg
      have q0 : ev (.tmp 5) = _ := hpre 0 (by decide)
      have q1 : ev (.tmp 6) = _ := hpre 1 (by decide)
      have C := Lib.hid (KI.out W (show Below w.heap.size w W from HR.out))
      have HRW9 := HR
      clear hpre hψ
      go_simp
      refine C.out.mono ?_
      rintro e w5 ⟨rfl, hB5⟩
      exact hK _ w5 γ (below3 (show Below w.heap.size w W from HRW9.out) hB5 (Nat.le_refl _)) (fun j u _ _ h => dlPhi_w h) (fun _ _ _ h => h) rfl
    · refine ⟨fun hg K hK => ?_, trivial⟩
      clear hg
      have q0 : ev (.tmp 7) = _ := hpre 2 (by decide)
      clear hpre hψ
      go_simp
      exact hK _ _ γ HR.out (fun _ _ _ _ h => h) (fun _ _ _ h => h) rfl
    · refine ⟨fun hg K hK => ?_, fun hg h => absurd ((show left _ ev 3 = .bool g1 from hpre 3 (by decide)).trans (by rw [h])) hg⟩
      have hg1 : g1 = false := by have h := Eq.trans (Eq.symm (hpre 3 (by decide))) hg; simpa using h
      clear hg
      have hbk := HC.out.below (show Below w.heap.size w W from HR.out) HC.out.lt
      have hzg := hbk.lt
      have e0 := hbk.cell 0
      have e1 := hbk.cell 1
      have e2 := hbk.cell 2
      have e3 := hbk.cell 3
      have e4 := hbk.cell 4
      have e5 := hbk.cell 5
      have e6 := hbk.cell 6
      have e7 := hbk.cell 7
      simp only [List.getElem?_toArray, List.getElem?_cons_zero, List.getElem?_cons_succ] at e0 e1 e2 e3 e4 e5 e6 e7
      clear hbk
      clear hpre hψ
      go_simp
      exact hK _ _ γ HR.out (fun _ _ _ _ h => h) (fun _ _ _ h => h) (fun _ => rfl)
    · refine ⟨fun hg K hK => ?_, fun hg h => absurd ((show left _ ev 3 = .bool g1 from hpre 3 (by decide)).trans (by rw [h])) hg⟩
      have hg1 : g1 = false := by have h := Eq.trans (Eq.symm (hpre 3 (by decide))) hg; simpa using h
      clear hg
      clear hpre hψ
      go_simp
      exact hK _ _ γ HR.out (fun _ _ _ _ h => h) (fun _ _ _ h => h) (fun _ => rfl)
    · refine ⟨fun hg K hK => ?_, fun hg h => absurd ((show left _ ev 3 = .bool g1 from hpre 3 (by decide)).trans (by rw [h])) hg⟩
      have hg1 : g1 = false := by have h := Eq.trans (Eq.symm (hpre 3 (by decide))) hg; simpa using h
      clear hg
      have q0 : ev (.tmp 9) = _ := hpre 4 (by decide) hg1
      have q1 : ev (.tmp 10) = _ := hpre 5 (by decide) hg1
      have C := Lib.hid (KR.out W (show Below w.heap.size w W from HR.out))
      have HRW9 := HR
      clear hpre hψ
      go_simp
      refine C.out.mono ?_
      rintro e w5 ⟨rfl, hB5⟩
      exact hK _ w5 γ (below3 (show Below w.heap.size w W from HRW9.out) hB5 (Nat.le_refl _)) (fun j u _ _ h => dlPhi_w h) (fun _ _ _ h => h) (fun _ => rfl)
    · refine ⟨fun hg K hK => ?_, fun hg h => absurd ((show left _ ev 3 = .bool g1 from hpre 3 (by decide)).trans (by rw [h])) hg⟩
      have hg1 : g1 = false := by have h := Eq.trans (Eq.symm (hpre 3 (by decide))) hg; simpa using h
      clear hg
      clear hpre hψ
      go_simp
      exact hK _ _ γ HR.out (fun _ _ _ _ h => h) (fun _ _ _ h => h) (fun _ => rfl)
    · refine ⟨fun hg K hK => ?_, fun hg h => absurd ((show left _ ev 3 = .bool g1 from hpre 3 (by decide)).trans (by rw [h])) hg⟩
      have hg1 : g1 = false := by have h := Eq.trans (Eq.symm (hpre 3 (by decide))) hg; simpa using h
      clear hg
      have q0 : ev (.tmp 12) = _ := hpre 7 (by decide) hg1
      clear hpre hψ
      go_simp
      exact hK _ _ γ HR.out (fun _ _ _ _ h => h) (fun _ _ _ h => h) (fun _ => rfl)
    · refine ⟨fun hg K hK => ?_, fun hg h => absurd ((show left _ ev 3 = .bool g1 from hpre 3 (by decide)).trans (by rw [h])) hg⟩
      have hg1 : g1 = false := by have h := Eq.trans (Eq.symm (hpre 3 (by decide))) hg; simpa using h
      clear hg
      have q0 : ev (.tmp 13) = _ := hpre 8 (by decide) hg1
      have hbk := HC.out.below (show Below w.heap.size w W from HR.out) HC.out.lt
      have hzg := hbk.lt
      have e7 := hbk.cell 7
      simp only [List.getElem?_toArray, List.getElem?_cons_zero, List.getElem?_cons_succ] at e7
      clear hbk
      clear hpre hψ
      go_simp
      exact hK _ _ γ HR.out (fun _ _ _ _ h => h) (fun _ _ _ h => h) (fun _ => rfl)
    · refine ⟨fun hg K hK => ?_, fun hg h => absurd ((show left _ ev 3 = .bool g1 from hpre 3 (by decide)).trans (by rw [h])) hg⟩
      have hg1 : g1 = false := by have h := Eq.trans (Eq.symm (hpre 3 (by decide))) hg; simpa using h
      clear hg
      have hbk := HS.out.below (show Below w.heap.size w W from HR.out) HS.out.lt
      have hzg := hbk.lt
      have e0 := hbk.cell 0
      simp only [List.getElem?_toArray, List.getElem?_cons_zero, List.getElem?_cons_succ] at e0
      clear hbk
      clear hpre hψ
      go_simp
      exact hK _ _ γ HR.out (fun _ _ _ _ h => h) (fun _ _ _ h => h) (fun _ => rfl)
    · refine ⟨fun hg K hK => ?_, fun hg h => absurd ((show left _ ev 3 = .bool g1 from hpre 3 (by decide)).trans (by rw [h])) hg⟩
      have hg1 : g1 = false := by have h := Eq.trans (Eq.symm (hpre 3 (by decide))) hg; simpa using h
      clear hg
      have q0 : ev (.tmp 14) = _ := hpre 9 (by decide) hg1
      have q1 : ev (.tmp 15) = _ := hpre 10 (by decide) hg1
      clear hpre hψ
      go_simp
      exact hK _ _ γ HR.out (fun _ _ _ _ h => h) (fun _ _ _ h => h) (fun _ => rfl)
    · refine ⟨fun hg K hK => ?_, fun hg h => absurd ((show left _ ev 3 = .bool g1 from hpre 3 (by decide)).trans (by rw [h])) hg⟩
      have hg1 : g1 = false := by have h := Eq.trans (Eq.symm (hpre 3 (by decide))) hg; simpa using h
      clear hg
      have q0 : ev (.tmp 16) = _ := hpre 11 (by decide) hg1
      have hca := ((show Below w.heap.size w W from HR.out).cell (p := ⟨lb, lo + s, none⟩) HCR.out.1).trans HCR.out.2
      have hza : lb < W.heap.size := block_of_cell hca
      clear hpre hψ
      go_simp
      exact hK _ _ γ HR.out (fun _ _ _ _ h => h) (fun _ _ _ h => h) (fun _ => rfl)
    · refine ⟨fun hg K hK => ?_, fun hg h => absurd ((show left _ ev 3 = .bool g1 from hpre 3 (by decide)).trans (by rw [h])) hg⟩
      have hg1 : g1 = false := by have h := Eq.trans (Eq.symm (hpre 3 (by decide))) hg; simpa using h
      clear hg
      have q0 : ev (.tmp 11) = _ := hpre 6 (by decide) hg1
      have q1 : ev (.tmp 17) = _ := hpre 12 (by decide) hg1
      clear hpre hψ
      have HG3 := HG2
      go_simp
      exact hK _ _ γ HR.out (fun _ _ _ _ h => h) (fun _ _ _ h => h) (fun _ => by rw [HG3.out])
    · refine ⟨fun hg K hK => ?_, trivial⟩
      clear hg
      have q0 : ev (.tmp 8) = _ := hpre 3 (by decide)
      have q1 := hpre 13 (by decide)
      clear hpre hψ
      cases g1
      · have q1 : ev (.tmp 18) = _ := q1 rfl
        go_simp
        exact hK _ _ γ HR.out (fun _ _ _ _ h => h) (fun _ _ _ h => h) rfl
      · clear q1
        go_simp
        exact hK _ _ γ HR.out (fun _ _ _ _ h => h) (fun _ _ _ h => h) rfl
    · refine ⟨fun hg K hK => ?_, trivial⟩
      clear hg
      have q0 : ev (.tmp 19) = _ := hpre 14 (by decide)
      clear hpre hψ
      go_simp
      exact hK _ _ γ HR.out (fun _ _ _ _ h => h) (fun _ _ _ h => h) rfl
  · intro vs w' γ hvl hR hφ
    have q15 := hφ 15 (by decide)
    have HR := Lib.hid hR
    clear hφ hR
    match vs, hvl with
    | [y0, y1, y2, y3, y4, y5, y6, y7, y8, y9, y10, y11, y12, y13, y14, y15], _ =>
    simp only [List.getD_cons_zero, List.getD_cons_succ] at q15
    obtain rfl : y15 = _ := q15
    have HB := Lib.hid HR.out
    clear HR
    simp [putAll]
    go_wp2
    go_ret
    exact ⟨rfl, HB.out⟩
/-- Whether a control delays the end. -/
def delayB (g : Gm) (inn : List Bool) (rnk : List Int) (s u : Nat) : Bool := (subL g s u).all (delB inn rnk (rnk.getD s 0))
set_option maxRecDepth 100000 in
set_option maxHeartbeats 2000000 in
theorem delays_any (nA gA iA cA rA : Option Addr) (nn nc gn gc ic cn cc rc : Nat) (g : Gm) (inn : List Bool) (rnk : List Int) (s u : Nat) (w : World) (hin : GmIn w w.heap.size ⟨nA, gA, nn, nc, gn, gc⟩ g) (ok : GmOk g) (hI : Rd w w.heap.size 1 encB iA g.S inn) (hR : Rd w w.heap.size 1 encI rA g.S rnk) (hs : s < g.S) (hu : u < g.C) :
    Calls Try.prog 82 #[.agg #[.int .i64 (g.S : Int), .int .i64 (g.C : Int), .int .i64 (g.H : Int), .slice nA nn nc, .slice gA gn gc, .slice iA g.S ic, .slice cA cn cc, .slice rA g.S rc], .int .i64 (s : Int), .int .i64 (u : Int)] w fun e w' => e = .returned (.bool (delayB g inn rnk s u)) ∧ Below w.heap.size w w' := by
  have KA0 := Lib.hid (fun W (h : Below w.heap.size w W) => after_any nA gA nn nc gn gc g s u W (hin.next' h) ok hs hu)
  have KF0 := Lib.hid (fun (A : Option Addr) (c bc bs : Nat) W (h : Below w.heap.size w W) (hrd : Rd W W.heap.size 1 encI A g.H (subL g s u)) (hc : Blk W bc 92 #[.int .i64 (g.S : Int), .int .i64 (g.C : Int), .int .i64 (g.H : Int), .slice nA nn nc, .slice gA gn gc, .slice iA g.S ic, .slice cA cn cc, .slice rA g.S rc]) (hsb : Blk W bs 3 #[.int .i64 (s : Int)]) => all_any2 A g.H c (subL g s u) 85 (.pointer (some ⟨bc, 0, none⟩)) (.pointer (some ⟨bs, 0, none⟩)) (delB inn rnk (rnk.getD s 0)) W (enters_of Try.func85 (by kernel_rfl) rfl) hrd (by have := ok.h1; omega) (fun x hx W' hW' => delays1_any g.S g.C g.H nA gA iA cA rA nn nc gn gc g.S ic cn cc g.S rc inn rnk x s bc bs W' (hc.below hW' hc.lt) (hsb.below hW' hsb.lt) ((hI.next h).next hW') ((hR.next h).next hW') (sub_bd ok hx) rfl hs))
  obtain ⟨r, hr⟩ : ∃ r, r = delayB g inn rnk s u := ⟨_, rfl⟩
  have hr2 : (subL g s u).all (delB inn rnk (rnk.getD s 0)) = r := hr.symm
  rw [hr2] at KF0
  rw [← hr]
  clear hin ok hI hR hs hu hr hr2
  go_enter Try.func82, Try.ntmps82
  go_wp2_with fail
  obtain ⟨bc, hbc⟩ : ∃ z, z = w.heap.size := ⟨_, rfl⟩
  obtain ⟨bs, hbs⟩ : ∃ z, z = bc + 1 := ⟨_, rfl⟩
  obtain ⟨w1, hw1⟩ : ∃ z, z = (w.alloc (.cells #[.int .i64 (g.S : Int), .int .i64 (g.C : Int), .int .i64 (g.H : Int), .slice nA nn nc, .slice gA gn gc, .slice iA g.S ic, .slice cA cn cc, .slice rA g.S rc] 92)).alloc (.cells #[.int .i64 (s : Int)] 3) := ⟨_, rfl⟩
  have hl1 : Below w.heap.size w w1 := by rw [hw1]; (repeat' (first | (with_reducible exact Below.refl _ _) | (with_reducible assumption) | (with_reducible refine below_drewN ?_ _) | (with_reducible refine below_after (by assumption) ?_ ?_) | (with_reducible refine Below.drew ?_) | (with_reducible refine Below.alloc ?_ ?_ _) | (with_reducible refine Below.setCell ?_ ?_ _) | omega | (simp; omega) | (simp; done)))
  have hc1 : Blk w1 bc 92 #[.int .i64 (g.S : Int), .int .i64 (g.C : Int), .int .i64 (g.H : Int), .slice nA nn nc, .slice gA gn gc, .slice iA g.S ic, .slice cA cn cc, .slice rA g.S rc] := by rw [hw1, hbc]; exact Blk.alloc (heap_alloc_new w _) _
  have hs1 : Blk w1 bs 3 #[.int .i64 (s : Int)] := by
    have e2 := heap_alloc_new (w.alloc (.cells #[.int .i64 (g.S : Int), .int .i64 (g.C : Int), .int .i64 (g.H : Int), .slice nA nn nc, .slice gA gn gc, .slice iA g.S ic, .slice cA cn cc, .slice rA g.S rc] 92)) (.cells #[.int .i64 (s : Int)] 3)
    simp only [World.size_alloc] at e2
    rw [hw1, hbs, hbc]
    exact e2
  rw [← hw1, ← hbc, ← hbs]
  clear hw1 hbc hbs
  refine (KA0.out _ hl1).mono ?_
  rintro e w2 ⟨A, c, rfl, hB2, hrd⟩
  have hl2 := below3 hl1 hB2 (Nat.le_refl _)
  have K2 := Lib.hid (KF0.out A c bc bs w2 hl2 (hrd.next hB2) (hc1.below hB2 hc1.lt) (hs1.below hB2 hs1.lt))
  have HL2 := Lib.hid hl2
  clear hl1 hc1 hs1 hB2 hrd hl2 KA0 KF0
  go_wp2_with fail
  refine K2.out.mono ?_
  rintro e w3 ⟨rfl, hB3⟩
  have HL3 := Lib.hid (below3 HL2.out hB3 (Nat.le_refl _))
  clear hB3
  go_wp2
  go_ret
  exact ⟨rfl, HL3.out⟩
end Go.Proofs.Ytalngalikblgkaa
