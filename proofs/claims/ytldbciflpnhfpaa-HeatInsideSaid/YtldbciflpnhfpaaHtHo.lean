/- heat: hot. -/
import Derived.Test.YtldbciflpnhfpaaHtQ
import Derived.Test.YtldbciflpnhfpaaHtSl
import Derived.Test.YtldbciflpnhfpaaHtNb

set_option linter.unusedSimpArgs false
set_option linter.unusedVariables false
namespace Go.Proofs.Ytldbciflpnhfpaa
open Go.RowKit

def limG (h : Hl) (i : Nat) : Int := (h.rooms.getD i ⟨0, 0⟩).lim
/-- The least room that has more than its limit, or -1. -/
def HotIs (h : Hl) (t : List Int) (r : Int) : Prop :=
  (r = -1 ∧ ∀ i, i < h.rooms.length → t.getD i 0 ≤ limG h i) ∨ ∃ i, i < h.rooms.length ∧ r = ((i : Nat) : Int) ∧ limG h i < t.getD i 0 ∧ ∀ j, j < i → t.getD j 0 ≤ limG h j
def hotPhi (tb to xb rn tc k : Nat) (x y : Int) (d : Bool) : Nat → Value → World → (Nat → Nat) → Prop
  | 0, v, _, _ => v = .slice (some ⟨tb, to, none⟩) rn tc
  | 1, v, _, _ => v = .int .i64 (k : Int)
  | 2, v, _, _ => v = .pointer (some ⟨tb, to + k, none⟩)
  | 3, v, _, _ => v = .int .i64 x
  | 4, v, _, _ => v = .pointer (some ⟨xb, 1, none⟩)
  | 5, v, _, _ => v = .int .i64 y
  | 6, v, _, _ => v = .bool d
  | _, _, _, _ => True
set_option maxRecDepth 100000 in
set_option maxHeartbeats 2000000 in
theorem hot_any (rA wA bA cA tA : Option Addr) (rn rc wn wc bn bc cn cc tc : Nat) (h : Hl) (t : List Int) (w : World) (hin : HlIn w w.heap.size ⟨rA, wA, bA, cA, rn, wn, bn, cn⟩ h) (ok : HlOk h) (ht : Rd w w.heap.size 1 encI tA rn t) :
    Calls Try.prog 71 #[.agg #[.slice rA rn rc, .slice wA wn wc, .slice bA bn bc, .slice cA cn cc], .slice tA rn tc] w fun e w' => ∃ r : Int, e = .returned (.int .i64 r) ∧ HotIs h t r ∧ Below w.heap.size w w' := by
  have hrn : h.rooms.length = rn := hin.rm.1
  have HN8 : Hid (rn ≤ 8 ∧ h.rooms.length = rn) := Lib.hid ⟨by rw [← hrn]; exact ok.n8, hrn⟩
  obtain ⟨rb, ro, e1, hrb, _⟩ := hin.rm.2 (show 0 < rn by rw [← hrn]; have := ok.n1; omega)
  obtain ⟨tb, to, e2, htb, _⟩ := ht.2 (show 0 < rn by rw [← hrn]; have := ok.n1; omega)
  dsimp only at e1
  subst e1
  subst e2
  have HR := Lib.hid hin.rm
  have HT := Lib.hid ht
  have g1 : w.heap.size < w.heap.size + 1 := by omega
  clear hin ht ok hrn hrb htb
  go_enter Try.func71, Try.ntmps71
  go_wp2_with fail
  obtain ⟨bx, hbx⟩ : ∃ z, z = w.heap.size := ⟨_, rfl⟩
  obtain ⟨w1, hw1⟩ : ∃ z, z = w.alloc (.cells #[.slice (some ⟨rb, ro, none⟩) rn rc, .slice wA wn wc, .slice bA bn bc, .slice cA cn cc] 28) := ⟨_, rfl⟩
  have B0 : Hid (Below w.heap.size w w1) := Lib.hid (by rw [hw1]; exact (Below.refl _ _).alloc (Nat.le_refl _) _)
  rw [← hw1]
  clear hw1 g1
  go_loopw [10] (fun i wr => ∃ k : Nat, k ≤ rn ∧ i = .int .i64 ((k : Nat) : Int) ∧ Hid (Below w1.heap.size w1 wr ∧ ∀ j, j < k → t.getD j 0 ≤ limG h j)) (fun i _ => rn - (intOf i).toNat)
  case atStart => exact ⟨0, by omega, rfl, Lib.hid ⟨Below.refl _ _, fun j h => absurd h (by omega)⟩⟩
  case round =>
    obtain ⟨k, hk, rfl, HW⟩ := hrel
    by_cases hlt : k < rn
    · have hBB : Below w.heap.size w wr := below3 B0.out HW.out.1 (Nat.le_refl _)
      obtain ⟨b1, o1, x0, e1, hb1, hx, hcx⟩ := (HR.out.below hBB).at_ hlt
      obtain ⟨b2, o2, y, e2, hb2, hy, hcy⟩ := (HT.out.below hBB).at_ hlt
      simp only [Option.some.injEq, Addr.mk.injEq] at e1 e2
      obtain ⟨e1, e1', -⟩ := e1
      obtain ⟨e2, e2', -⟩ := e2
      rw [← e1] at hb1
      rw [← e2] at hb2
      rw [← e1, ← e1'] at hcx
      rw [← e2, ← e2'] at hcy
      clear e1 e1' e2 e2'
      obtain ⟨st, lim⟩ := x0
      have cx0 := hcx 0 (.int .i64 st) rfl
      have cx1 := hcx 1 (.int .i64 lim) rfl
      rw [Nat.add_zero] at cx0
      have z0 : rb < wr.heap.size := Nat.lt_of_lt_of_le hb1 hBB.size
      have cy := cellI hcy
      have hk0 : (0 : Int) ≤ (k : Int) := by omega
      have hkn : (k : Int) < (rn : Int) := by omega
      have hk8 : (k : Int) ≤ 400 := by have := HN8.out.1; omega
      have hlim : limG h k = lim := by unfold limG; rw [List.getD_eq_getElem?_getD, hx]; rfl
      have hty : t.getD k 0 = y := by rw [List.getD_eq_getElem?_getD, hy]; rfl
      obtain ⟨d, hd⟩ : ∃ z, z = decide (lim < y) := ⟨_, rfl⟩
      have HD : Hid (decide (lim < y) = d) := Lib.hid hd.symm
      have HYES : Hid (d = true → HotIs h t ((k : Nat) : Int)) := Lib.hid (fun e => by
        rw [hd] at e
        exact Or.inr ⟨k, by rw [HN8.out.2]; exact hlt, rfl, by rw [hlim, hty]; exact of_decide_eq_true e, HW.out.2⟩)
      have HNO : Hid (d = false → ∀ j, j < k + 1 → t.getD j 0 ≤ limG h j) := Lib.hid (fun e j hj => by
        rw [hd] at e
        have h9 := of_decide_eq_false e
        rcases Nat.lt_succ_iff_lt_or_eq.1 hj with h | h
        · exact HW.out.2 j h
        · subst h; omega)
      have HCY : Hid (tb < wr.heap.size ∧ wr.cell? ⟨tb, to + k, none⟩ = some (.int .i64 y)) := Lib.hid ⟨Nat.lt_of_lt_of_le hb2 hBB.size, cy⟩
      have g1 : wr.heap.size < wr.heap.size + 1 := by omega
      clear hx hy hcx hcy hb1 hb2 hd hlim hty cy
      go_wp2_with fail
      obtain ⟨xb, hxb⟩ : ∃ z, z = wr.heap.size := ⟨_, rfl⟩
      obtain ⟨w2, hw2⟩ : ∃ z, z = wr.alloc (.cells #[.int .i64 st, .int .i64 lim] 61) := ⟨_, rfl⟩
      have XB : Hid (Blk w2 xb 61 #[.int .i64 st, .int .i64 lim]) := Lib.hid (by rw [hw2, hxb]; exact heap_alloc_new wr _)
      have BW : Hid (Below wr.heap.size wr w2) := Lib.hid (by rw [hw2]; exact (Below.refl _ _).alloc (Nat.le_refl _) _)
      rw [← hw2, ← hxb]
      clear hw2 hxb g1 cx0 cx1 z0
      refine wp_region_free10 6 (by kernel_rfl) [some 15, some 16, some 17, some 18, some 19, some 20, some 21] [[], [], [0, 1], [2], [], [4], [3, 5]] [(1, .slice (some ⟨tb, to, none⟩) rn tc), (5, .int .i64 (k : Int)), (6, .pointer (some ⟨xb, 0, none⟩))] (fun W _ => Below w2.heap.size w2 W) (hotPhi tb to xb rn tc k y lim d) (fun _ _ _ => True) (by kernel_rfl) (by kernel_rfl) rfl (by kernel_rfl) ?_ ?_ ⟨fun _ => 0, (Below.refl _ _).drew, fun _ _ => trivial⟩ ?_ ?_
      · intro z hz
        simp only [List.mem_cons, List.mem_nil_iff, or_false] at hz
        rcases hz with rfl | rfl | rfl
        all_goals exact ⟨by kernel_rfl, rfl⟩
      · intro i v W γ hi h
        rcases i with _ | _ | _ | _ | _ | _ | _ | i
        all_goals first | exact h | (simp at hi)
      · refine ⟨?_, ?_, ?_, ?_, ?_, ?_, ?_, trivial⟩
        all_goals
          intro a9 W γ ev hcc hff hfx hR hψ hpre
          simp only [List.mem_cons, List.mem_nil_iff, or_false, forall_eq, forall_eq_or_imp] at hfx
          obtain ⟨f0, f1, f2⟩ := hfx
          have HR9 : Hid (Below w2.heap.size w2 W) := Lib.hid hR
          clear hR
        · refine ⟨fun hg K hK => ?_, trivial⟩
          clear hg
          clear hpre hψ
          go_simp
          exact hK _ _ γ HR9.out (fun _ _ _ _ h => h) (fun _ _ _ h => h) rfl
        · refine ⟨fun hg K hK => ?_, trivial⟩
          clear hg
          clear hpre hψ
          go_simp
          exact hK _ _ γ HR9.out (fun _ _ _ _ h => h) (fun _ _ _ h => h) rfl
        · refine ⟨fun hg K hK => ?_, trivial⟩
          clear hg
          have q0 : ev (.tmp 15) = _ := hpre 0 (by decide)
          have q1 : ev (.tmp 16) = _ := hpre 1 (by decide)
          clear hpre hψ
          go_simp
          exact hK _ _ γ HR9.out (fun _ _ _ _ h => h) (fun _ _ _ h => h) rfl
        · refine ⟨fun hg K hK => ?_, trivial⟩
          clear hg
          have q0 : ev (.tmp 17) = _ := hpre 2 (by decide)
          have cy := ((below3 BW.out HR9.out (Nat.le_refl _)).cell (p := ⟨tb, to + k, none⟩) HCY.out.1).trans HCY.out.2
          have zy : tb < W.heap.size := block_of_cell cy
          clear hpre hψ
          go_simp
          exact hK _ _ γ HR9.out (fun _ _ _ _ h => h) (fun _ _ _ h => h) rfl
        · refine ⟨fun hg K hK => ?_, trivial⟩
          clear hg
          clear hpre hψ
          go_simp
          exact hK _ _ γ HR9.out (fun _ _ _ _ h => h) (fun _ _ _ h => h) rfl
        · refine ⟨fun hg K hK => ?_, trivial⟩
          clear hg
          have q0 : ev (.tmp 19) = _ := hpre 4 (by decide)
          have hbk := XB.out.below HR9.out XB.out.lt
          have cx := hbk.cell 1
          have zx := hbk.lt
          simp only [List.getElem?_toArray, List.getElem?_cons_zero, List.getElem?_cons_succ] at cx
          clear hbk
          clear hpre hψ
          go_simp
          exact hK _ _ γ HR9.out (fun _ _ _ _ h => h) (fun _ _ _ h => h) rfl
        · refine ⟨fun hg K hK => ?_, trivial⟩
          clear hg
          have q0 : ev (.tmp 18) = _ := hpre 3 (by decide)
          have q1 : ev (.tmp 20) = _ := hpre 5 (by decide)
          have wd := HD.out
          clear hpre hψ
          go_simp
          exact hK _ _ γ HR9.out (fun _ _ _ _ h => h) (fun _ _ _ h => h) rfl
      · intro vs wy γ hvl hR hφ
        have q6 := hφ 6 (by decide)
        have HR9 : Hid (Below w2.heap.size w2 wy) := Lib.hid hR
        clear hφ hR
        match vs, hvl with
        | [y0, y1, y2, y3, y4, y5, y6], _ =>
        simp only [List.getD_cons_zero, List.getD_cons_succ] at q6
        obtain rfl : y6 = _ := q6
        have HN2 : Hid (Below w1.heap.size w1 wy) := Lib.hid (below3 (below3 HW.out.1 BW.out (Nat.le_refl _)) HR9.out (Nat.le_refl _))
        clear HR9
        simp [putAll]
        cases d
        · go_wp2
          go_roundw
          case rel => exact ⟨k + 1, by omega, by go_num, Lib.hid ⟨HN2.out, HNO.out rfl⟩⟩
          case measure => simp [intOf]; omega
        · have HF : Hid (HotIs h t ((k : Nat) : Int) ∧ Below w.heap.size w wy) := Lib.hid ⟨HYES.out rfl, below3 B0.out HN2.out (Nat.le_refl _)⟩
          go_wp2
          go_ret
          exact ⟨_, rfl, HF.out⟩
    · obtain rfl : rn = k := by omega
      have HF : Hid (HotIs h t (-1) ∧ Below w.heap.size w wr) := Lib.hid ⟨Or.inl ⟨rfl, by rw [HN8.out.2]; exact HW.out.2⟩, below3 B0.out HW.out.1 (Nat.le_refl _)⟩
      go_wp2
      go_ret
      exact ⟨_, rfl, HF.out⟩
end Go.Proofs.Ytldbciflpnhfpaa

/- heat: ride. -/

set_option linter.unusedSimpArgs false
set_option linter.unusedVariables false
namespace Go.Proofs.Ytldbciflpnhfpaa
open Go.RowKit Go.Shelf
attribute [local go_sem] Oper.semAt_some

def NoHot (h : Hl) (t : List Int) : Prop := ∀ i, i < h.rooms.length → t.getD i 0 ≤ limG h i
theorem HotIs.none {h : Hl} {t : List Int} (k : HotIs h t (-1)) : NoHot h t := by
  rcases k with k | ⟨i, _, e, _⟩
  · exact k.2
  · omega
/-- The boxes of the call while it goes through the seconds. -/
structure RiX (w0 : World) (hb r0 r1 b1 b2 : Nat) (hs : Array Value) (x0 x1 : Value) (n m : Int) (W : World) : Prop where
  h : Blk W hb 28 hs
  r0 : Blk W r0 3 #[x0]
  r1 : Blk W r1 3 #[x1]
  n : Blk W b1 3 #[.int .i64 n]
  m : Blk W b2 3 #[.int .i64 m]
  low : Below w0.heap.size w0 W
theorem RiX.own {w0 V V' : World} {hb r0 r1 b1 b2 : Nat} {hs : Array Value} {x0 x1 : Value} {n m : Int} {row : Option Nat} (h : RiX w0 hb r0 r1 b1 b2 hs x0 x1 n m V) (hg : V.grownBy V' row) (hr : ∀ r, row = some r → w0.heap.size ≤ r ∧ r ≠ hb ∧ r ≠ r0 ∧ r ≠ r1 ∧ r ≠ b1 ∧ r ≠ b2) : RiX w0 hb r0 r1 b1 b2 hs x0 x1 n m V' :=
  ⟨h.h.kept hg (fun e => (hr _ e.symm).2.1 rfl), h.r0.kept hg (fun e => (hr _ e.symm).2.2.1 rfl), h.r1.kept hg (fun e => (hr _ e.symm).2.2.2.1 rfl), h.n.kept hg (fun e => (hr _ e.symm).2.2.2.2.1 rfl), h.m.kept hg (fun e => (hr _ e.symm).2.2.2.2.2 rfl), h.low.grown hg h.low.size (fun r e => (hr r e).1)⟩
theorem RiX.put {w0 V : World} {hb r0 r1 b1 b2 D : Nat} {hs : Array Value} {x0 x1 : Value} {n m : Int} {o : Obj} (h : RiX w0 hb r0 r1 b1 b2 hs x0 x1 n m V) (hD : V.heap[D]? = some o) (hc : o.isCells = false) (hw : w0.heap.size ≤ D) (o' : Obj) : RiX w0 hb r0 r1 b1 b2 hs x0 x1 n m (V.putObj D o') := by
  refine h.own (grownBy_putObj' V D o') (fun r e => ?_)
  cases e
  have hn : ∀ {T cs}, ¬ Blk V D T cs := fun {T cs} hb => by
    rw [show V.heap[D]? = _ from hb] at hD
    cases hD
    cases hc
  exact ⟨hw, fun e => hn (e ▸ h.h), fun e => hn (e ▸ h.r0), fun e => hn (e ▸ h.r1), fun e => hn (e ▸ h.n), fun e => hn (e ▸ h.m)⟩
structure RiR (V1 : World) (B r0 r1 : Nat) (W : World) : Prop where
  keep : Keep (fun b => b = r0 ∨ b = r1) V1 W
  kf : KeepsFrom B V1 W
  e0 : ∃ v, Blk W r0 3 #[v]
  e1 : ∃ v, Blk W r1 3 #[v]
theorem RiR.store {V1 : World} {B r0 r1 z : Nat} {W : World} (h : RiR V1 B r0 r1 W) (hz : z = r0 ∨ z = r1) (hB : z < B) (u : Value) : RiR V1 B r0 r1 (W.setCell ⟨z, 0, none⟩ u) :=
  ⟨h.keep.setCell hz u, h.kf.trans (KeepsFrom.of_grownBy (grown_set W z 0 u) (fun r e => by cases e; exact hB)), blk1_any u h.e0, blk1_any u h.e1⟩
def riPhi (r0 r1 : Nat) (n m : Int) : Nat → Value → World → (Nat → Nat) → Prop
  | 0, v, _, _ => v = .int .i64 n
  | 1, v, _, _ => v = .int .i64 m
  | 2, _, W, _ => Blk W r0 3 #[.int .i64 n]
  | 3, _, W, _ => Blk W r1 3 #[.int .i64 m]
  | _, _, _, _ => True
theorem riPhi_keep {r0 r1 z : Nat} {n m : Int} {j : Nat} {v : Value} {W W' : World} {γ : Nat → Nat} (hk : Keep (fun b => b = z) W W') (h : riPhi r0 r1 n m j v W γ) (h2 : j = 2 → r0 ≠ z) (h3 : j = 3 → r1 ≠ z) : riPhi r0 r1 n m j v W' γ := by
  unfold riPhi at h ⊢
  split at h
  all_goals first | exact h | trivial | skip
  · exact hk.blk h (h2 rfl)
  · exact hk.blk h (h3 rfl)
/-- What the ride comes to. -/
def RideIs (h : Hl) (L : Nat → List Int) (cnt : Nat) (n m : Int) : Prop :=
  (n = (cnt : Int) + 1 ∧ m = -1 ∧ ∀ j, j ≤ cnt → NoHot h (L j)) ∨ ∃ k : Nat, k ≤ cnt ∧ n = (k : Int) ∧ m ≠ -1 ∧ HotIs h (L k) m ∧ ∀ j, j < k → NoHot h (L j)
set_option maxRecDepth 100000 in
set_option maxHeartbeats 8000000 in
theorem ride_any (rA wA bA cA tA lA : Option Addr) (rn rc wn wc bn bc cn cc lc tc cnt : Nat) (hcnt : cnt ≤ 20000) (out pump : Int) (h : Hl) (t l : List Int) (w : World) (hin : HlIn w w.heap.size ⟨rA, wA, bA, cA, rn, wn, bn, cn⟩ h) (ok : HlOk h) (ho : 0 ≤ out ∧ out ≤ 1000000) (hp : 0 ≤ pump ∧ pump ≤ 100000) (ht : Rd w w.heap.size 1 encI tA rn t) (htb : ∀ x ∈ t, 0 ≤ x ∧ x ≤ 1000000) (hl : Rd w w.heap.size 1 encI lA rn l) (hlb : ∀ x ∈ l, 0 ≤ x ∧ x ≤ 10000000) :
    Calls Try.prog 45 #[.agg #[.slice rA rn rc, .slice wA wn wc, .slice bA bn bc, .slice cA cn cc], .slice tA rn tc, .agg #[.slice lA rn lc, .int .i64 out, .int .i64 pump], .int .i64 (cnt : Int)] w fun e w' => Below w.heap.size w w' ∧ ∃ n m : Int, e = .returned (.tuple #[.int .i64 n, .int .i64 m]) ∧ RideIs h (itL h l out pump t) cnt n m := by
  have hrn : h.rooms.length = rn := hin.rm.1
  have hn1 : 1 ≤ rn ∧ rn ≤ 8 := by rw [← hrn]; exact ⟨ok.n1, ok.n8⟩
  have KH0 := Lib.hid (fun W (hW : Below w.heap.size w W) => hot_any rA wA bA cA tA rn rc wn wc bn bc cn cc tc h t W (hin.next hW) ok (ht.next hW))
  have KH1 := Lib.hid (fun W (hW : Below w.heap.size w W) (xb : Nat) (u : List Int) (hx : Rd W W.heap.size 1 encI (some ⟨xb, 0, none⟩) rn u) => hot_any rA wA bA cA (some ⟨xb, 0, none⟩) rn rc wn wc bn bc cn cc rn h u W (hin.next hW) ok hx)
  have HIT := Lib.hid (fun k => itL_ok ok (l := l) (out := out) (pump := pump) (by rw [ht.1, hrn]) htb hlb ho.1 hp k)
  have HSX := Lib.hid (fun (n : Nat) (hn : 4 ≤ n) (tB qB hB nB cB : Nat) (Sf : Nat → Prop) (W : World) (hW : Below w.heap.size w W) => seconds_x n hn rA wA bA cA tA lA rn rc wn wc bn bc cn cc tc lc h ok out pump ho hp t l cnt (by omega) tB qB hB nB cB w.heap.size Sf W (hin.below hW) (ht.below hW) htb (hl.below hW) hlb)
  have HALL9 := Lib.hid (And.intro hn1 hrn)
  have g1 : w.heap.size < w.heap.size + 1 := by omega
  have g2 : w.heap.size < w.heap.size + 1 + 1 := by omega
  have g3 : w.heap.size < w.heap.size + 1 + 1 + 1 := by omega
  have g5 : w.heap.size + 1 < w.heap.size + 1 + 1 := by omega
  have g6 : w.heap.size + 1 < w.heap.size + 1 + 1 + 1 := by omega
  clear hin ok ho hp ht htb hl hlb hn1 hrn
  refine (callsIn_wide (n := 8)).1 ?_
  refine callsIn_of_wp_marks Try.func45 rfl trivial ?_ rfl
  simp only [Try.ntmps45, List.size_toArray, List.length_cons, List.length_nil, Nat.reduceAdd, Nat.reduceSub, Array.replicate_succ, Array.replicate_zero, List.push_toArray, List.append_toArray, List.nil_append, List.cons_append]
  gi_wp2_with fail
  obtain ⟨hb, hhb⟩ : ∃ z, z = w.heap.size := ⟨_, rfl⟩
  obtain ⟨w1, hw1⟩ : ∃ z, z = w.alloc (.cells #[.slice rA rn rc, .slice wA wn wc, .slice bA bn bc, .slice cA cn cc] 28) := ⟨_, rfl⟩
  have HB : Hid (Blk w1 hb 28 #[.slice rA rn rc, .slice wA wn wc, .slice bA bn bc, .slice cA cn cc]) := Lib.hid (by rw [hw1, hhb]; exact heap_alloc_new w _)
  have Sw1 : Hid (w1.heap.size = hb + 1) := Lib.hid (by rw [hw1, hhb, World.size_alloc])
  have Zhb : Hid (w.heap.size ≤ hb) := Lib.hid (by rw [hhb]; exact Nat.le_refl _)
  have hBn : Below w.heap.size w w1 := by rw [hw1]; exact (Below.refl _ _).alloc (Nat.le_refl _) _
  rw [← hw1, ← hhb]
  have B0 : Hid (Below w.heap.size w w1) := Lib.hid hBn
  clear hw1 hhb hBn
  obtain ⟨xb, hxb⟩ : ∃ z, z = hb + 1 := ⟨_, rfl⟩
  obtain ⟨w2, hw2⟩ : ∃ z, z = w1.alloc (.cells #[.slice lA rn lc, .int .i64 out, .int .i64 pump] 35) := ⟨_, rfl⟩
  have XB : Hid (Blk w2 xb 35 #[.slice lA rn lc, .int .i64 out, .int .i64 pump]) := Lib.hid (by have e2 := heap_alloc_new w1 (.cells #[.slice lA rn lc, .int .i64 out, .int .i64 pump] 35); rw [Sw1.out] at e2; rw [hw2, hxb]; exact e2)
  have Sw2 : Hid (w2.heap.size = xb + 1) := Lib.hid (by rw [hw2, hxb, World.size_alloc, Sw1.out])
  have Zxb : Hid (w1.heap.size = xb) := Lib.hid (by rw [Sw1.out, hxb])
  have hBn : Below w1.heap.size w1 w2 := by rw [hw2]; exact (Below.refl _ _).alloc (Nat.le_refl _) _
  rw [← hw2, ← hxb]
  have B1 : Hid (Below w1.heap.size w1 w2) := Lib.hid hBn
  clear hw2 hxb hBn
  obtain ⟨r0, hr0⟩ : ∃ z, z = xb + 1 := ⟨_, rfl⟩
  obtain ⟨w3, hw3⟩ : ∃ z, z = w2.alloc (.cells #[.int .i64 0] 3) := ⟨_, rfl⟩
  have R0 : Hid (Blk w3 r0 3 #[.int .i64 0]) := Lib.hid (by have e2 := heap_alloc_new w2 (.cells #[.int .i64 0] 3); rw [Sw2.out] at e2; rw [hw3, hr0]; exact e2)
  have Sw3 : Hid (w3.heap.size = r0 + 1) := Lib.hid (by rw [hw3, hr0, World.size_alloc, Sw2.out])
  have Zr0 : Hid (w2.heap.size = r0) := Lib.hid (by rw [Sw2.out, hr0])
  have hBn : Below w2.heap.size w2 w3 := by rw [hw3]; exact (Below.refl _ _).alloc (Nat.le_refl _) _
  rw [← hw3, ← hr0]
  have B2 : Hid (Below w2.heap.size w2 w3) := Lib.hid hBn
  clear hw3 hr0 hBn
  obtain ⟨r1, hr1⟩ : ∃ z, z = r0 + 1 := ⟨_, rfl⟩
  obtain ⟨w4, hw4⟩ : ∃ z, z = w3.alloc (.cells #[.int .i64 0] 3) := ⟨_, rfl⟩
  have R1 : Hid (Blk w4 r1 3 #[.int .i64 0]) := Lib.hid (by have e2 := heap_alloc_new w3 (.cells #[.int .i64 0] 3); rw [Sw3.out] at e2; rw [hw4, hr1]; exact e2)
  have Sw4 : Hid (w4.heap.size = r1 + 1) := Lib.hid (by rw [hw4, hr1, World.size_alloc, Sw3.out])
  have Zr1 : Hid (w3.heap.size = r1) := Lib.hid (by rw [Sw3.out, hr1])
  have hBn : Below w3.heap.size w3 w4 := by rw [hw4]; exact (Below.refl _ _).alloc (Nat.le_refl _) _
  rw [← hw4, ← hr1]
  have B3 : Hid (Below w3.heap.size w3 w4) := Lib.hid hBn
  clear hw4 hr1 hBn
  clear g1 g2 g3 g5 g6
  refine ⟨trivial, ?_⟩
  refine (callsIn_wide.2 (KH0.out _ (below3 (below3 (below3 B0.out B1.out (Nat.le_refl _)) B2.out (Nat.le_refl _)) B3.out (Nat.le_refl _)))).mono ?_
  rintro e w5 ⟨m0, rfl, hm0, hB⟩
  have B4 : Hid (Below w4.heap.size w4 w5) := Lib.hid hB
  have HM0 := Lib.hid hm0
  clear hB hm0
  have g1 : w5.heap.size < w5.heap.size + 1 := by omega
  by_cases hm9 : m0 = -1
  · obtain rfl : m0 = -1 := hm9
    gi_wp2_with fail
    obtain ⟨b1, hb1⟩ : ∃ z, z = w5.heap.size := ⟨_, rfl⟩
    obtain ⟨w8, hw8⟩ : ∃ z, z = w5.alloc (.cells #[.int .i64 0] 3) := ⟨_, rfl⟩
    have B1X : Hid (Blk w8 b1 3 #[.int .i64 0]) := Lib.hid (by rw [hw8, hb1]; exact heap_alloc_new w5 _)
    have Sw8 : Hid (w8.heap.size = b1 + 1) := Lib.hid (by rw [hw8, hb1, World.size_alloc])
    have Zb1 : Hid (w5.heap.size ≤ b1) := Lib.hid (by rw [hb1]; exact Nat.le_refl _)
    have hBn : Below w5.heap.size w5 w8 := by rw [hw8]; exact (Below.refl _ _).alloc (Nat.le_refl _) _
    rw [← hw8, ← hb1]
    have B5 : Hid (Below w5.heap.size w5 w8) := Lib.hid hBn
    clear hw8 hb1 hBn
    obtain ⟨b2, hb2⟩ : ∃ z, z = b1 + 1 := ⟨_, rfl⟩
    obtain ⟨w9, hw9⟩ : ∃ z, z = w8.alloc (.cells #[.int .i64 (-1)] 3) := ⟨_, rfl⟩
    have B2X : Hid (Blk w9 b2 3 #[.int .i64 (-1)]) := Lib.hid (by have e2 := heap_alloc_new w8 (.cells #[.int .i64 (-1)] 3); rw [Sw8.out] at e2; rw [hw9, hb2]; exact e2)
    have Sw9 : Hid (w9.heap.size = b2 + 1) := Lib.hid (by rw [hw9, hb2, World.size_alloc, Sw8.out])
    have Zb2 : Hid (w8.heap.size = b2) := Lib.hid (by rw [Sw8.out, hb2])
    have hBn : Below w8.heap.size w8 w9 := by rw [hw9]; exact (Below.refl _ _).alloc (Nat.le_refl _) _
    rw [← hw9, ← hb2]
    have B6 : Hid (Below w8.heap.size w8 w9) := Lib.hid hBn
    clear hw9 hb2 hBn
    clear g1
    have hbk := HB.out.below (below3 (below3 (below3 (below3 (below3 B1.out B2.out (Nat.le_refl _)) B3.out (Nat.le_refl _)) B4.out (Nat.le_refl _)) B5.out (Nat.le_refl _)) B6.out (Nat.le_refl _)) HB.out.lt
    have p0 := hbk.cell 0
    have p1 := hbk.cell 1
    have p2 := hbk.cell 2
    have p3 := hbk.cell 3
    simp only [List.getElem?_toArray, List.getElem?_cons_zero, List.getElem?_cons_succ] at p0 p1 p2 p3
    have zp := hbk.lt
    clear hbk
    have hbk := XB.out.below (below3 (below3 (below3 (below3 B2.out B3.out (Nat.le_refl _)) B4.out (Nat.le_refl _)) B5.out (Nat.le_refl _)) B6.out (Nat.le_refl _)) XB.out.lt
    have q0 := hbk.cell 0
    have q1 := hbk.cell 1
    have q2 := hbk.cell 2
    simp only [List.getElem?_toArray, List.getElem?_cons_zero, List.getElem?_cons_succ] at q0 q1 q2
    have zq := hbk.lt
    clear hbk
    have HP : Hid (Blk w9 hb 28 #[.slice rA rn rc, .slice wA wn wc, .slice bA bn bc, .slice cA cn cc] ∧ Blk w9 xb 35 #[.slice lA rn lc, .int .i64 out, .int .i64 pump]) := Lib.hid ⟨HB.out.below (below3 (below3 (below3 (below3 (below3 B1.out B2.out (Nat.le_refl _)) B3.out (Nat.le_refl _)) B4.out (Nat.le_refl _)) B5.out (Nat.le_refl _)) B6.out (Nat.le_refl _)) HB.out.lt, XB.out.below (below3 (below3 (below3 (below3 B2.out B3.out (Nat.le_refl _)) B4.out (Nat.le_refl _)) B5.out (Nat.le_refl _)) B6.out (Nat.le_refl _)) XB.out.lt⟩
    clear p0 p1 p2 p3 zp q0 q1 q2 zq
    have hb2 := B2X.out.cell 0
    simp only [List.getElem?_toArray, List.getElem?_cons_zero] at hb2
    have zb2 := B2X.out.lt
    gi_wp2_with fail
    clear hb2 zb2
    refine wpIn_wide.2 ?_
    refine wp_region_free9 5 (by kernel_rfl) [some 20, some 21, some 22, some 23, some 24, some 25] [[], [], [], [], [2, 3], [0, 1, 4, 4]] [(4, .pointer (some ⟨hb, 0, none⟩)), (1, .slice tA rn tc), (6, .pointer (some ⟨xb, 0, none⟩)), (3, .int .i64 (cnt : Int))] (fun W _ => Below w9.heap.size w9 W) (settPhi w9.heap.size #[.slice rA rn rc, .slice wA wn wc, .slice bA bn bc, .slice cA cn cc] (.slice tA rn tc) #[.slice lA rn lc, .int .i64 out, .int .i64 pump] (cnt : Int)) (fun _ _ _ => True) (by kernel_rfl) (by kernel_rfl) rfl (by kernel_rfl) ?_ ?_ ⟨fun _ => 0, ((Below.refl w9.heap.size w9).drew), fun _ _ => trivial⟩ ?_ ?_
    · intro z hz
      simp only [List.mem_cons, List.mem_nil_iff, or_false] at hz
      rcases hz with rfl | rfl | rfl | rfl
      all_goals exact ⟨by kernel_rfl, rfl⟩
    · intro i v W γ hi h
      rcases i with _ | _ | _ | _ | _ | _ | i
      all_goals first | exact h | (simp at hi)
    · refine ⟨?_, ?_, ?_, ?_, ?_, ?_, trivial⟩
      all_goals
        intro a W γ ev hcc hff hfx hR hψ hpre
        simp only [List.mem_cons, List.mem_nil_iff, or_false, forall_eq, forall_eq_or_imp] at hfx
        obtain ⟨f0, f1, f2, f3⟩ := hfx
        have HR := Lib.hid hR
        clear hR
        refine ⟨fun _ K hK => ?_, trivial⟩
      · have hbk := HP.out.1.below HR.out HP.out.1.lt
        have p0 := hbk.cell 0
        have p1 := hbk.cell 1
        have p2 := hbk.cell 2
        have p3 := hbk.cell 3
        simp only [List.getElem?_toArray, List.getElem?_cons_zero, List.getElem?_cons_succ] at p0 p1 p2 p3
        have zp := hbk.lt
        clear hbk
        clear hpre hψ
        go_simp
        exact hK _ _ γ HR.out (fun _ _ _ _ h => h) (fun _ _ h => h) rfl
      · clear hpre hψ
        go_simp
        exact hK _ _ γ HR.out (fun _ _ _ _ h => h) (fun _ _ h => h) rfl
      · have hbk := HP.out.2.below HR.out HP.out.2.lt
        have p0 := hbk.cell 0
        have p1 := hbk.cell 1
        have p2 := hbk.cell 2
        simp only [List.getElem?_toArray, List.getElem?_cons_zero, List.getElem?_cons_succ] at p0 p1 p2
        have zp := hbk.lt
        clear hbk
        clear hpre hψ
        go_simp
        exact hK _ _ γ HR.out (fun _ _ _ _ h => h) (fun _ _ h => h) rfl
      · clear hpre hψ
        go_simp
        exact hK _ _ γ HR.out (fun _ _ _ _ h => h) (fun _ _ h => h) rfl
      · have q0 : ev (.tmp 22) = _ := hpre 2 (by decide)
        have q1 : ev (.tmp 23) = _ := hpre 3 (by decide)
        have C := Lib.hid (always_any (.slice lA rn lc) (.int .i64 out) (.int .i64 pump) (cnt : Int) W)
        clear hpre hψ
        go_simp
        refine C.out.mono ?_
        rintro e w10 ⟨nB, cB, rfl, h1, h2, h3, h4, hB5⟩
        exact hK _ w10 γ (HR.out.trans (hB5.mono HR.out.size)) (fun j u _ _ h => settPhi_next hB5 j u h) (fun _ _ h => h) ⟨nB, cB, rfl, h1, h2, Nat.le_trans HR.out.size h3, Nat.le_trans HR.out.size h4⟩
      · have q0 : ev (.tmp 20) = _ := hpre 0 (by decide)
        have q1 : ev (.tmp 21) = _ := hpre 1 (by decide)
        obtain ⟨nB, cB, q4, h1, h2, h3, h4⟩ := hpre 4 (by decide)
        replace q4 : ev (.tmp 24) = _ := q4
        have HX := Lib.hid (And.intro h1 (And.intro h2 (And.intro h3 h4)))
        clear h1 h2 h3 h4
        have C := Lib.hid (seconds_any (.slice rA rn rc) (.slice wA wn wc) (.slice bA bn bc) (.slice cA cn cc) tA rn tc (.func 70) #[] #[.pointer (some ⟨nB, 0, none⟩), .pointer (some ⟨cB, 0, none⟩)] W)
        clear hpre hψ
        go_simp
        refine C.out.mono ?_
        rintro e w10 ⟨tB, qB, hB, rfl, ⟨h1, h2, h3⟩, h4, h5, h6, hB5⟩
        obtain ⟨k1, k2, k3, k4⟩ := HX.out
        exact hK _ w10 γ (HR.out.trans (hB5.mono HR.out.size)) (fun j u _ _ h => settPhi_next hB5 j u h) (fun _ _ h => h) ⟨tB, qB, hB, nB, cB, rfl, h1, h2, h3, k1.below hB5 k1.lt, k2.below hB5 k2.lt, Nat.le_trans HR.out.size h4, Nat.le_trans HR.out.size h5, Nat.le_trans HR.out.size h6, k3, k4⟩
    · intro vs w10 γ hvl hR hφ
      obtain ⟨tB, qB, hB, nB, cB, e5, hit⟩ := hφ 5 (by decide)
      have HR := Lib.hid hR
      have HI := Lib.hid hit
      clear hφ hR hit
      match vs, hvl with
      | [y0, y1, y2, y3, y4, y5], _ =>
      simp only [List.getD_cons_zero, List.getD_cons_succ] at e5
      subst e5
      have HLW : Hid (Below w.heap.size w w10) := Lib.hid (below3 (below3 (below3 (below3 (below3 (below3 (below3 B0.out B1.out (Nat.le_refl _)) B2.out (Nat.le_refl _)) B3.out (Nat.le_refl _)) B4.out (Nat.le_refl _)) B5.out (Nat.le_refl _)) B6.out (Nat.le_refl _)) HR.out (Nat.le_refl _))
      have HSZ : Hid (w.heap.size ≤ hb ∧ xb = hb + 1 ∧ r0 = hb + 2 ∧ r1 = hb + 3 ∧ r1 < w5.heap.size ∧ w5.heap.size ≤ b1 ∧ b2 = b1 + 1 ∧ w9.heap.size = b2 + 1 ∧ w9.heap.size ≤ w10.heap.size) := Lib.hid (by
        have e1 := Zhb.out
        have e2 := Zxb.out
        have e3 := Zr0.out
        have e4 := Zr1.out
        have e6 := Zb1.out
        have e7 := Zb2.out
        have f1 := Sw1.out
        have f2 := Sw2.out
        have f3 := Sw3.out
        have f4 := Sw4.out
        have f8 := Sw8.out
        have f9 := Sw9.out
        have k1 := B4.out.size
        have k3 := (HR.out : Below w9.heap.size w9 w10).size
        refine ⟨?_, ?_, ?_, ?_, ?_, ?_, ?_, ?_, ?_⟩ <;> omega)
      have HBX : Hid (RiX w hb r0 r1 b1 b2 #[.slice rA rn rc, .slice wA wn wc, .slice bA bn bc, .slice cA cn cc] (.int .i64 0) (.int .i64 0) 0 (-1) w10) := Lib.hid ⟨HP.out.1.below HR.out HP.out.1.lt, R0.out.below (below3 (below3 (below3 (below3 B3.out B4.out (Nat.le_refl _)) B5.out (Nat.le_refl _)) B6.out (Nat.le_refl _)) HR.out (Nat.le_refl _)) R0.out.lt, R1.out.below (below3 (below3 (below3 B4.out B5.out (Nat.le_refl _)) B6.out (Nat.le_refl _)) HR.out (Nat.le_refl _)) R1.out.lt, B1X.out.below (below3 B6.out HR.out (Nat.le_refl _)) B1X.out.lt, B2X.out.below HR.out B2X.out.lt, HLW.out⟩
      obtain ⟨Sf, hSf⟩ : ∃ z : Nat → Prop, z = fun b => b ≠ b1 ∧ b ≠ b2 := ⟨_, rfl⟩
      have HF : Hid (∀ b, Sf b ↔ b ≠ b1 ∧ b ≠ b2) := Lib.hid (fun b => by rw [hSf])
      clear hSf
      simp [putAll]
      gi_wp2
      refine wpIn_range_x rfl (by omega) (gf := 68) (lb := #[.pointer (some ⟨tB, 0, none⟩), .pointer (some ⟨qB, 0, none⟩), .pointer (some ⟨hB, 0, none⟩)]) rfl trivial (enters_of Try.func68 (by kernel_rfl) rfl)
        (HSX.out 7 (by omega) tB qB hB nB cB Sf w10 HLW.out ?sa ?sb HLW.out.size ?sc HI.out.t HI.out.q HI.out.h HI.out.n HI.out.c)
        (Below.refl _ _) (fun _ => rfl) (fun h9 k9 => KpB.trans h9 k9) (fun W9 l9 o o' _ h9 hc _ => KpB.putObj W9 l9 o o' h9 hc)
        (fun pre V => RiX w hb r0 r1 b1 b2 #[.slice rA rn rc, .slice wA wn wc, .slice bA bn bc, .slice cA cn cc] (.int .i64 0) (.int .i64 0) (pre.length : Int) (-1) V ∧ pre.length ≤ cnt ∧ ∀ j, j ≤ pre.length → NoHot h (itL h l out pump t j))
        (fun pre V => ∃ (n : Nat) (m a b : Int), RiX w hb r0 r1 b1 b2 #[.slice rA rn rc, .slice wA wn wc, .slice bA bn bc, .slice cA cn cc] (.int .i64 (n : Int)) (.int .i64 m) a b V ∧ n ≤ cnt ∧ m ≠ -1 ∧ HotIs h (itL h l out pump t n) m ∧ ∀ j, j < n → NoHot h (itL h l out pump t j))
        ?own ?ownr ?start (fun b9 => { tmps := #[.agg #[.slice rA rn rc, .slice wA wn wc, .slice bA bn bc, .slice cA cn cc], .slice tA rn tc, .agg #[.slice lA rn lc, .int .i64 out, .int .i64 pump], .int .i64 (cnt : Int), .pointer (some ⟨hb, 0, none⟩), undef, .pointer (some ⟨xb, 0, none⟩), undef, .pointer (some ⟨r0, 0, none⟩), .pointer (some ⟨r1, 0, none⟩), .pointer (some ⟨b1, 0, none⟩), .pointer (some ⟨b2, 0, none⟩), .slice (some ⟨b9, 0, none⟩) rn rn, .agg #[.slice rA rn rc, .slice wA wn wc, .slice bA bn bc, .slice cA cn cc], .slice tA rn tc, .int .i64 (-1), .int .i64 (-1), .bool false, undef, undef, y0, y1, y2, y3, y4, .func (.func 68) #[] #[.pointer (some ⟨tB, 0, none⟩), .pointer (some ⟨qB, 0, none⟩), .pointer (some ⟨hB, 0, none⟩)], .slice (some ⟨b9, 0, none⟩) rn rn, undef, undef, undef, undef, undef, undef, undef, undef, undef, undef, undef], defers := [] }) ?hX ?assign ?body ?done ?stop
      case sa => exact fun b hb9 => (HF.out b).2 (by have := HSZ.out; omega)
      case sb => exact fun b hb9 => (HF.out b).2 (by have := HSZ.out; omega)
      case sc => exact ⟨(HF.out _).2 (by have := HSZ.out; have := HI.out.z1; omega), (HF.out _).2 (by have := HSZ.out; have := HI.out.z2; omega), (HF.out _).2 (by have := HSZ.out; have := HI.out.z3; omega), (HF.out _).2 (by have := HSZ.out; have := HI.out.z4; omega), (HF.out _).2 (by have := HSZ.out; have := HI.out.z5; omega)⟩
      case own =>
        rintro pre A C row ⟨h5, h6⟩ hg hr
        have hs := HSZ.out
        exact ⟨h5.own hg (fun r e => by have := hr r e; refine ⟨?_, ?_, ?_, ?_, ?_, ?_⟩ <;> omega), h6⟩
      case ownr =>
        rintro pre A C row ⟨n, m, a, b, h5, h6⟩ hg hr
        have hs := HSZ.out
        exact ⟨n, m, a, b, h5.own hg (fun r e => by have := hr r e; refine ⟨?_, ?_, ?_, ?_, ?_, ?_⟩ <;> omega), h6⟩
      case start =>
        refine ⟨HBX.out, Nat.zero_le _, fun j hj => ?_⟩
        obtain rfl : j = 0 := Nat.le_zero.1 hj
        exact HM0.out.none
      case hX =>
        rintro pre x V l9 o o' ⟨h1, h2⟩ hl9 ho hc
        exact ⟨h1.kept (grownBy_putObj' V l9 o') (by intro e; cases e; rw [show V.heap[_]? = _ from h1] at ho; cases ho; cases hc), h2⟩
      case assign =>
        intro l9 x V K hK
        gi_wp2
        exact hK
      case body =>
        rintro l9 pre x V hl9 ⟨r9, hr9⟩ ⟨h5, h6, h7⟩ ⟨k1, k2, k3⟩
        have hp3 : pre.length < 20000 := by omega
        have c0 := h5.h.cell 0
        have c1 := h5.h.cell 1
        have c2 := h5.h.cell 2
        have c3 := h5.h.cell 3
        have d0 := h5.n.cell 0
        simp only [List.getElem?_toArray, List.getElem?_cons_zero, List.getElem?_cons_succ] at c0 c1 c2 c3 d0
        have zc := h5.h.lt
        have zd := h5.n.lt
        have fd := h5.n.frozen
        have hne1 : hb ≠ b1 := by have := HSZ.out; omega
        have hne2 : b1 ≠ b2 := by have := HSZ.out; omega
        have hne3 : b2 ≠ b1 := by have := HSZ.out; omega
        have hxn : x ≠ b1 ∧ x ≠ b2 := by have := HSZ.out; omega
        have hS1 : RiX w hb r0 r1 b1 b2 #[.slice rA rn rc, .slice wA wn wc, .slice bA bn bc, .slice cA cn cc] (.int .i64 0) (.int .i64 0) ((pre.length : Int) + 1) (-1) (V.setCell ⟨b1, 0, none⟩ (.int .i64 ((pre.length : Int) + 1))) := ⟨h5.h.far hne1 _, h5.r0.far (by show r0 ≠ b1; have := HSZ.out; omega) _, h5.r1.far (by show r1 ≠ b1; have := HSZ.out; omega) _, blk1_set (g := b1) h5.n _, h5.m.far hne3 _, h5.low.setCell (by show w.heap.size ≤ b1; have := HSZ.out; omega) _⟩
        have hx1 : Blk (V.setCell ⟨b1, 0, none⟩ (.int .i64 ((pre.length : Int) + 1))) x 3 (intsA (itL h l out pump t (pre.length + 1))) := k1.far (p := ⟨b1, 0, none⟩) hxn.1 _
        have HE := Lib.hid (KH1.out _ hS1.low x (itL h l out pump t (pre.length + 1)) (by have h9 := hx1.rdI; rwa [(HIT.out _).1, HALL9.out.2] at h9))
        have HV := Lib.hid (And.intro h5 (And.intro hS1 (And.intro hx1 (And.intro h6 (And.intro h7 k3)))))
        clear h5 h6 h7 k1 k2 k3 hr9 hS1 hx1 hxn
        gi_wp2_with fail
        refine ⟨trivial, ?_⟩
        refine (CallsIn.inRound l9 (callsIn_wide.2 HE.out)).mono ?_
        rintro e V1 ⟨m1, rfl, hm1, hB1⟩
        have HM1 := Lib.hid hm1
        have HB9 := Lib.hid hB1
        have S1 : Hid (RiX w hb r0 r1 b1 b2 #[.slice rA rn rc, .slice wA wn wc, .slice bA bn bc, .slice cA cn cc] (.int .i64 0) (.int .i64 0) ((pre.length : Int) + 1) (-1) V1) := Lib.hid (HV.out.2.1.own (grown_of_below hB1) (fun r e => by cases e))
        have d1 := S1.out.m.cell 0
        simp only [List.getElem?_toArray, List.getElem?_cons_zero] at d1
        have z1 := S1.out.m.lt
        have f1 := S1.out.m.frozen
        have HG0 : Hid (KeepsFrom w10.heap.size V (V1.setCell ⟨b2, 0, none⟩ (.int .i64 m1)) ∧ KpB Sf V (V1.setCell ⟨b2, 0, none⟩ (.int .i64 m1))) := Lib.hid (by
          have hs := HSZ.out
          have gA := grown_set V b1 0 (.int .i64 ((pre.length : Int) + 1))
          have gB := grown_set V1 b2 0 (.int .i64 m1)
          exact ⟨((KeepsFrom.of_grownBy gA (fun r e => by cases e; omega)).trans (KeepsFrom.of_grownBy (grown_of_below hB1) (fun r e => by cases e))).trans (KeepsFrom.of_grownBy gB (fun r e => by cases e; omega)), ((KpB.grown gA (fun r e hr => by cases e; exact ((HF.out _).1 hr).1 rfl)).trans (KpB.grown (grown_of_below hB1) (fun r e => by cases e))).trans (KpB.grown gB (fun r e hr => by cases e; exact ((HF.out _).1 hr).2 rfl))⟩)
        have S2 : Hid (RiX w hb r0 r1 b1 b2 #[.slice rA rn rc, .slice wA wn wc, .slice bA bn bc, .slice cA cn cc] (.int .i64 0) (.int .i64 0) ((pre.length : Int) + 1) m1 (V1.setCell ⟨b2, 0, none⟩ (.int .i64 m1))) := Lib.hid (by
          have hs := HSZ.out
          have h5 := S1.out
          exact ⟨h5.h.far (by show hb ≠ b2; omega) _, h5.r0.far (by show r0 ≠ b2; omega) _, h5.r1.far (by show r1 ≠ b2; omega) _, h5.n.far hne2 _, blk1_set (g := b2) h5.m _, h5.low.setCell (by show w.heap.size ≤ b2; omega) _⟩)
        clear c0 c1 c2 c3 d0 zc zd fd hm1 hB1
        by_cases hm9 : m1 = -1
        · obtain rfl : m1 = -1 := hm9
          gi_wp2
          refine ⟨HG0.out.1, HG0.out.2, ?_, ?_, ?_⟩
          · rw [List.length_append, List.length_singleton]
            exact S2.out
          · rw [List.length_append, List.length_singleton]
            have := HV.out.2.2.2.2.2
            omega
          · rw [List.length_append, List.length_singleton]
            intro j hj
            rcases Nat.lt_or_ge j (pre.length + 1) with h9 | h9
            · exact HV.out.2.2.2.2.1 j (by omega)
            · obtain rfl : j = pre.length + 1 := by omega
              exact HM1.out.none
        · have HNE : Hid (r0 < w10.heap.size ∧ r1 < w10.heap.size ∧ r0 ≠ r1 ∧ (b1 ≠ r0 ∧ b1 ≠ r1) ∧ (b2 ≠ r0 ∧ b2 ≠ r1) ∧ hb ≠ r0 ∧ hb ≠ r1) := Lib.hid (by have := HSZ.out; refine ⟨?_, ?_, ?_, ⟨?_, ?_⟩, ⟨?_, ?_⟩, ?_, ?_⟩ <;> omega)
          gi_wp2
          obtain ⟨V2, hV2⟩ : ∃ z, z = V1.setCell ⟨b2, 0, none⟩ (.int .i64 m1) := ⟨_, rfl⟩
          rw [← hV2] at S2 HG0 ⊢
          clear hV2 d1 z1 f1
          refine wpIn_round_free10 (by kernel_rfl) 3 (by kernel_rfl) [some 34, some 35, none, none] [[], [], [0, 0], [1, 2, 0, 1, 2]] [(10, .pointer (some ⟨b1, 0, none⟩)), (11, .pointer (some ⟨b2, 0, none⟩)), (8, .pointer (some ⟨r0, 0, none⟩)), (9, .pointer (some ⟨r1, 0, none⟩))] (fun W9 _ => RiR V2 w10.heap.size r0 r1 W9) (riPhi r0 r1 ((pre.length : Int) + 1) m1) (fun _ _ _ => True) (by kernel_rfl) (by kernel_rfl) rfl (by kernel_rfl) ?_ ?_ ⟨fun _ => 0, ⟨(Keep.refl _ _).drew, (KeepsOthers.drew _).from _, ⟨_, S2.out.r0⟩, ⟨_, S2.out.r1⟩⟩, fun _ _ => trivial⟩ ?_ ?_
          · intro z hz
            simp only [List.mem_cons, List.mem_nil_iff, or_false] at hz
            rcases hz with rfl | rfl | rfl | rfl
            all_goals exact ⟨by kernel_rfl, rfl⟩
          · intro i v W9 γ hi h9
            rcases i with _ | _ | _ | _ | i
            all_goals first | exact h9 | (simp at hi)
          · refine ⟨?_, ?_, ?_, ?_, trivial⟩
            all_goals
              intro a9 W9 γ ev hcc hff hfx hR hψ hpre
              simp only [List.mem_cons, List.mem_nil_iff, or_false, forall_eq, forall_eq_or_imp] at hfx
              obtain ⟨j0, j1, j2, j3⟩ := hfx
              have HR9 := Lib.hid (show RiR V2 w10.heap.size r0 r1 W9 from hR)
              clear hR
              refine ⟨fun _ K hK => ?_, trivial⟩
            · have hbk := HR9.out.keep.blk S2.out.n (by have := HNE.out.2.2.2.1; omega)
              have p0 := hbk.cell 0
              simp only [List.getElem?_toArray, List.getElem?_cons_zero] at p0
              have zp := hbk.lt
              clear hbk hpre hψ
              go_simp
              exact hK _ _ γ HR9.out (fun _ _ _ _ h => h) (fun _ _ _ h => h) rfl
            · have hbk := HR9.out.keep.blk S2.out.m (by have := HNE.out.2.2.2.2.1; omega)
              have p0 := hbk.cell 0
              simp only [List.getElem?_toArray, List.getElem?_cons_zero] at p0
              have zp := hbk.lt
              clear hbk hpre hψ
              go_simp
              exact hK _ _ γ HR9.out (fun _ _ _ _ h => h) (fun _ _ _ h => h) rfl
            · have q0 : ev (.tmp 34) = _ := hpre 0 (by decide)
              obtain ⟨v9, hv9⟩ := HR9.out.e0
              have p0 := hv9.cell 0
              simp only [List.getElem?_toArray, List.getElem?_cons_zero] at p0
              have zp := hv9.lt
              have fp := hv9.frozen
              have HVV := Lib.hid hv9
              clear hv9 hpre hψ
              go_simp
              exact hK undef _ γ (HR9.out.store (.inl rfl) HNE.out.1 _) (fun j u hj hne h9 => riPhi_keep (z := r0) ((Keep.refl (fun b => b = r0) W9).setCell rfl _) h9 (fun e => absurd e hne) (fun _ e => HNE.out.2.2.1 e.symm)) (fun _ _ _ h => h) (blk1_set (g := r0) HVV.out _)
            · have q0 : ev (.tmp 35) = _ := hpre 1 (by decide)
              obtain ⟨v9, hv9⟩ := HR9.out.e1
              have p0 := hv9.cell 0
              simp only [List.getElem?_toArray, List.getElem?_cons_zero] at p0
              have zp := hv9.lt
              have fp := hv9.frozen
              have HVV := Lib.hid hv9
              clear hv9 hpre hψ
              go_simp
              exact hK undef _ γ (HR9.out.store (.inr rfl) HNE.out.2.1 _) (fun j u hj hne h9 => riPhi_keep (z := r1) ((Keep.refl (fun b => b = r1) W9).setCell rfl _) h9 (fun _ => HNE.out.2.2.1) (fun e => absurd e hne)) (fun _ _ _ h => h) (blk1_set (g := r1) HVV.out _)
          · intro vs W9 γ hvl hR hφ
            have q2 : Blk W9 r0 3 #[.int .i64 ((pre.length : Int) + 1)] := hφ 2 (by decide)
            have q3 : Blk W9 r1 3 #[.int .i64 m1] := hφ 3 (by decide)
            have HQ9 := Lib.hid (And.intro q2 q3)
            have HR9 := Lib.hid (show RiR V2 w10.heap.size r0 r1 W9 from hR)
            clear hφ hR q2 q3
            match vs, hvl with
            | [s0, s1, s2, s3], _ =>
            simp [putAll]
            gi_wp2
            have hs := HSZ.out
            have hKp := HR9.out.keep
            have h3 := HV.out.2.2.2.2.2
            refine ⟨HG0.out.1.trans HR9.out.kf, pre.length + 1, m1, (pre.length : Int) + 1, m1, ⟨hKp.blk S2.out.h (by omega), HQ9.out.1, HQ9.out.2, hKp.blk S2.out.n (by omega), hKp.blk S2.out.m (by omega), S2.out.low.trans (hKp.below S2.out.low.size (fun b' e => by rcases e with e | e <;> omega))⟩, by omega, hm9, HM1.out, fun j hj => HV.out.2.2.2.2.1 j (by omega)⟩
      case done =>
        rintro D ys V hD hys ⟨h5, _, h7⟩ hK
        have y0 := h5.r0.cell 0
        have y1 := h5.r1.cell 0
        simp only [List.getElem?_toArray, List.getElem?_cons_zero] at y0 y1
        have z0 := h5.r0.lt
        have z1 := h5.r1.lt
        have f0 := h5.r0.frozen
        have f1 := h5.r1.frozen
        have hc9 : ((cnt : Nat) : Int) ≤ 20000 := by omega
        obtain ⟨W', hW'⟩ : ∃ z, z = (V.setCell ⟨r0, 0, none⟩ (.int .i64 ((cnt : Int) + 1))).setCell ⟨r1, 0, none⟩ (.int .i64 (-1)) := ⟨_, rfl⟩
        have hne : r0 ≠ r1 ∧ r1 ≠ r0 ∧ hb ≠ r0 ∧ hb ≠ r1 ∧ b1 ≠ r0 ∧ b1 ≠ r1 ∧ b2 ≠ r0 ∧ b2 ≠ r1 ∧ w.heap.size ≤ D := by have := HSZ.out; refine ⟨?_, ?_, ?_, ?_, ?_, ?_, ?_, ?_, ?_⟩ <;> omega
        obtain ⟨n1, n2, n3, n4, n5, n6, n7, n8, n10⟩ := hne
        have hdd : ∀ {z : Nat} {T : TypeId} {cs : Array Value}, Blk V z T cs → D ≠ z := fun hb e => by
          subst e
          rw [show V.heap[D]? = _ from hb] at hK
          cases hK
        have HX : Hid (RiX w hb r0 r1 b1 b2 #[.slice rA rn rc, .slice wA wn wc, .slice bA bn bc, .slice cA cn cc] (.int .i64 ((cnt : Int) + 1)) (.int .i64 (-1)) (ys.length : Int) (-1) W' ∧ W'.heap[D]? = some (.deferred (some []))) := Lib.hid (by
          rw [hW']
          refine ⟨⟨(h5.h.far n3 _).far n4 _, (blk1_set (g := r0) h5.r0 _).far n1 _, blk1_set (g := r1) (h5.r1.far n2 _) _, (h5.n.far n5 _).far n6 _, (h5.m.far n7 _).far n8 _, ?_⟩, ?_⟩
          · have hs := HSZ.out
            exact (h5.low.setCell (by show w.heap.size ≤ r0; omega) _).setCell (by show w.heap.size ≤ r1; omega) _
          · rw [Below.heap_setCell _ _ _ _ (hdd h5.r1), Below.heap_setCell _ _ _ _ (hdd h5.r0)]
            exact hK)
        have HNH : Hid (∀ j, j ≤ cnt → NoHot h (itL h l out pump t j)) := Lib.hid (by rw [← hys]; exact h7)
        clear h5 hK hys hdd h7
        gi_wp2
        rw [← hW']
        refine ⟨by simp, .inl ⟨_, _, rfl, run_takeDeferred HX.out.2, ?_⟩⟩
        have H2 := HX.out.1.put HX.out.2 rfl n10 (.deferred none)
        have q0 := H2.r0.cell 0
        have q1 := H2.r1.cell 0
        simp only [List.getElem?_toArray, List.getElem?_cons_zero] at q0 q1
        exact ⟨_, by simp [results, Try.results45, go_sem, q0, q1], H2.low, _, _, rfl, .inl ⟨rfl, rfl, HNH.out⟩⟩
      case stop =>
        rintro D pre V hD ⟨n, m, a, b, h5, h6, h7, h8, h9⟩ hK
        have n10 : w.heap.size ≤ D := by have := HSZ.out; omega
        have HX := Lib.hid (And.intro h5 (And.intro h6 (And.intro h7 (And.intro h8 (And.intro h9 hK)))))
        clear h5 h6 h7 h8 h9 hK
        gi_wp2
        refine ⟨by simp, .inl ⟨_, _, rfl, run_takeDeferred HX.out.2.2.2.2.2, ?_⟩⟩
        obtain ⟨h5, h6, h7, h8, h9, hK⟩ := HX.out
        have H2 := h5.put hK rfl n10 (.deferred none)
        have q0 := H2.r0.cell 0
        have q1 := H2.r1.cell 0
        simp only [List.getElem?_toArray, List.getElem?_cons_zero] at q0 q1
        exact ⟨_, by simp [results, Try.results45, go_sem, q0, q1], H2.low, _, _, rfl, .inr ⟨n, h6, rfl, h7, h8, h9⟩⟩
  · have HNM : Hid (m0 ≠ -1) := Lib.hid hm9
    gi_wp2_with fail
    obtain ⟨b1, hb1⟩ : ∃ z, z = w5.heap.size := ⟨_, rfl⟩
    obtain ⟨w8, hw8⟩ : ∃ z, z = w5.alloc (.cells #[.int .i64 0] 3) := ⟨_, rfl⟩
    have B1X : Hid (Blk w8 b1 3 #[.int .i64 0]) := Lib.hid (by rw [hw8, hb1]; exact heap_alloc_new w5 _)
    have Sw8 : Hid (w8.heap.size = b1 + 1) := Lib.hid (by rw [hw8, hb1, World.size_alloc])
    have Zb1 : Hid (w5.heap.size ≤ b1) := Lib.hid (by rw [hb1]; exact Nat.le_refl _)
    have hBn : Below w5.heap.size w5 w8 := by rw [hw8]; exact (Below.refl _ _).alloc (Nat.le_refl _) _
    rw [← hw8, ← hb1]
    have B5 : Hid (Below w5.heap.size w5 w8) := Lib.hid hBn
    clear hw8 hb1 hBn
    obtain ⟨b2, hb2⟩ : ∃ z, z = b1 + 1 := ⟨_, rfl⟩
    obtain ⟨w9, hw9⟩ : ∃ z, z = w8.alloc (.cells #[.int .i64 m0] 3) := ⟨_, rfl⟩
    have B2X : Hid (Blk w9 b2 3 #[.int .i64 m0]) := Lib.hid (by have e2 := heap_alloc_new w8 (.cells #[.int .i64 m0] 3); rw [Sw8.out] at e2; rw [hw9, hb2]; exact e2)
    have Sw9 : Hid (w9.heap.size = b2 + 1) := Lib.hid (by rw [hw9, hb2, World.size_alloc, Sw8.out])
    have Zb2 : Hid (w8.heap.size = b2) := Lib.hid (by rw [Sw8.out, hb2])
    have hBn : Below w8.heap.size w8 w9 := by rw [hw9]; exact (Below.refl _ _).alloc (Nat.le_refl _) _
    rw [← hw9, ← hb2]
    have B6 : Hid (Below w8.heap.size w8 w9) := Lib.hid hBn
    clear hw9 hb2 hBn
    have S2 : Hid (RiX w hb r0 r1 b1 b2 #[.slice rA rn rc, .slice wA wn wc, .slice bA bn bc, .slice cA cn cc] (.int .i64 0) (.int .i64 0) 0 m0 w9) := Lib.hid ⟨HB.out.below (below3 (below3 (below3 (below3 (below3 B1.out B2.out (Nat.le_refl _)) B3.out (Nat.le_refl _)) B4.out (Nat.le_refl _)) B5.out (Nat.le_refl _)) B6.out (Nat.le_refl _)) HB.out.lt, R0.out.below (below3 (below3 (below3 B3.out B4.out (Nat.le_refl _)) B5.out (Nat.le_refl _)) B6.out (Nat.le_refl _)) R0.out.lt, R1.out.below (below3 (below3 B4.out B5.out (Nat.le_refl _)) B6.out (Nat.le_refl _)) R1.out.lt, B1X.out.below B6.out B1X.out.lt, B2X.out, (below3 (below3 (below3 (below3 (below3 (below3 B0.out B1.out (Nat.le_refl _)) B2.out (Nat.le_refl _)) B3.out (Nat.le_refl _)) B4.out (Nat.le_refl _)) B5.out (Nat.le_refl _)) B6.out (Nat.le_refl _))⟩
    have hs0 : hb < w5.heap.size ∧ r0 = hb + 2 ∧ r1 = hb + 3 ∧ r1 < w5.heap.size ∧ w5.heap.size ≤ b1 ∧ b2 = b1 + 1 ∧ w9.heap.size = b2 + 1 ∧ w.heap.size ≤ hb := by
      have e1 := Zhb.out
      have e2 := Zxb.out
      have e3 := Zr0.out
      have e4 := Zr1.out
      have e6 := Zb1.out
      have e7 := Zb2.out
      have f1 := Sw1.out
      have f2 := Sw2.out
      have f3 := Sw3.out
      have f4 := Sw4.out
      have f8 := Sw8.out
      have f9 := Sw9.out
      have k1 := B4.out.size
      refine ⟨?_, ?_, ?_, ?_, ?_, ?_, ?_, ?_⟩ <;> omega
    have HNE : Hid (r0 < w9.heap.size ∧ r1 < w9.heap.size ∧ r0 ≠ r1 ∧ (b1 ≠ r0 ∧ b1 ≠ r1) ∧ (b2 ≠ r0 ∧ b2 ≠ r1) ∧ (hb ≠ r0 ∧ hb ≠ r1) ∧ w.heap.size ≤ r0 ∧ w.heap.size ≤ r1) := Lib.hid (by refine ⟨?_, ?_, ?_, ⟨?_, ?_⟩, ⟨?_, ?_⟩, ⟨?_, ?_⟩, ?_, ?_⟩ <;> omega)
    clear hs0 g1
    have hb2 := B2X.out.cell 0
    simp only [List.getElem?_toArray, List.getElem?_cons_zero] at hb2
    have zb2 := B2X.out.lt
    gi_wp2_with fail
    clear hb2 zb2
    refine wpIn_wide.2 ?_
    refine wp_region_free10 3 (by kernel_rfl) [some 18, some 19, none, none] [[], [], [0, 0], [1, 2, 0, 1, 2]] [(10, .pointer (some ⟨b1, 0, none⟩)), (11, .pointer (some ⟨b2, 0, none⟩)), (8, .pointer (some ⟨r0, 0, none⟩)), (9, .pointer (some ⟨r1, 0, none⟩))] (fun W9 _ => RiR w9 w9.heap.size r0 r1 W9) (riPhi r0 r1 0 m0) (fun _ _ _ => True) (by kernel_rfl) (by kernel_rfl) rfl (by kernel_rfl) ?_ ?_ ⟨fun _ => 0, ⟨(Keep.refl _ _).drew, (KeepsOthers.drew _).from _, ⟨_, S2.out.r0⟩, ⟨_, S2.out.r1⟩⟩, fun _ _ => trivial⟩ ?_ ?_
    · intro z hz
      simp only [List.mem_cons, List.mem_nil_iff, or_false] at hz
      rcases hz with rfl | rfl | rfl | rfl
      all_goals exact ⟨by kernel_rfl, rfl⟩
    · intro i v W9 γ hi h9
      rcases i with _ | _ | _ | _ | i
      all_goals first | exact h9 | (simp at hi)
    · refine ⟨?_, ?_, ?_, ?_, trivial⟩
      all_goals
        intro a9 W9 γ ev hcc hff hfx hR hψ hpre
        simp only [List.mem_cons, List.mem_nil_iff, or_false, forall_eq, forall_eq_or_imp] at hfx
        obtain ⟨j0, j1, j2, j3⟩ := hfx
        have HR9 := Lib.hid (show RiR w9 w9.heap.size r0 r1 W9 from hR)
        clear hR
        refine ⟨fun _ K hK => ?_, trivial⟩
      · have hbk := HR9.out.keep.blk S2.out.n (by have := HNE.out.2.2.2.1; omega)
        have p0 := hbk.cell 0
        simp only [List.getElem?_toArray, List.getElem?_cons_zero] at p0
        have zp := hbk.lt
        clear hbk hpre hψ
        go_simp
        exact hK _ _ γ HR9.out (fun _ _ _ _ h => h) (fun _ _ _ h => h) rfl
      · have hbk := HR9.out.keep.blk S2.out.m (by have := HNE.out.2.2.2.2.1; omega)
        have p0 := hbk.cell 0
        simp only [List.getElem?_toArray, List.getElem?_cons_zero] at p0
        have zp := hbk.lt
        clear hbk hpre hψ
        go_simp
        exact hK _ _ γ HR9.out (fun _ _ _ _ h => h) (fun _ _ _ h => h) rfl
      · have q0 : ev (.tmp 18) = _ := hpre 0 (by decide)
        obtain ⟨v9, hv9⟩ := HR9.out.e0
        have p0 := hv9.cell 0
        simp only [List.getElem?_toArray, List.getElem?_cons_zero] at p0
        have zp := hv9.lt
        have fp := hv9.frozen
        have HVV := Lib.hid hv9
        clear hv9 hpre hψ
        go_simp
        exact hK undef _ γ (HR9.out.store (.inl rfl) HNE.out.1 _) (fun j u hj hne h9 => riPhi_keep (z := r0) ((Keep.refl (fun b => b = r0) W9).setCell rfl _) h9 (fun e => absurd e hne) (fun _ e => HNE.out.2.2.1 e.symm)) (fun _ _ _ h => h) (blk1_set (g := r0) HVV.out _)
      · have q0 : ev (.tmp 19) = _ := hpre 1 (by decide)
        obtain ⟨v9, hv9⟩ := HR9.out.e1
        have p0 := hv9.cell 0
        simp only [List.getElem?_toArray, List.getElem?_cons_zero] at p0
        have zp := hv9.lt
        have fp := hv9.frozen
        have HVV := Lib.hid hv9
        clear hv9 hpre hψ
        go_simp
        exact hK undef _ γ (HR9.out.store (.inr rfl) HNE.out.2.1 _) (fun j u hj hne h9 => riPhi_keep (z := r1) ((Keep.refl (fun b => b = r1) W9).setCell rfl _) h9 (fun _ => HNE.out.2.2.1) (fun e => absurd e hne)) (fun _ _ _ h => h) (blk1_set (g := r1) HVV.out _)
    · intro vs W9 γ hvl hR hφ
      have q2 : Blk W9 r0 3 #[.int .i64 0] := hφ 2 (by decide)
      have q3 : Blk W9 r1 3 #[.int .i64 m0] := hφ 3 (by decide)
      have HR9 := Lib.hid (show RiR w9 w9.heap.size r0 r1 W9 from hR)
      have q0 := q2.cell 0
      have q1 := q3.cell 0
      simp only [List.getElem?_toArray, List.getElem?_cons_zero] at q0 q1
      have HQ9 := Lib.hid (And.intro q0 q1)
      clear hφ hR q2 q3 q0 q1
      match vs, hvl with
      | [s0, s1, s2, s3], _ =>
      simp [putAll]
      gi_wp2
      have HFL : Hid (Below w.heap.size w W9) := Lib.hid (S2.out.low.trans (HR9.out.keep.below S2.out.low.size (fun b' e => by have := HNE.out.2.2.2.2.2.2; rcases e with e | e <;> omega)))
      obtain ⟨q0, q1⟩ := HQ9.out
      exact ⟨_, by simp [results, Try.results45, go_sem, q0, q1], HFL.out, _, _, rfl, .inr ⟨0, Nat.zero_le _, rfl, HNM.out, HM0.out, fun j hj => absurd hj (by omega)⟩⟩
end Go.Proofs.Ytldbciflpnhfpaa

/- heat: Ride, where all is valid. -/

set_option linter.unusedSimpArgs false
set_option linter.unusedVariables false
namespace Go.Proofs.Ytldbciflpnhfpaa
open Go.RowKit

set_option maxRecDepth 100000 in
set_option maxHeartbeats 1000000 in
theorem Ride_yes (rA wA bA cA : Option Addr) (rn rc wn wc bn bc cn cc : Nat) (aA zA tA : Option Addr) (ac zc tc cnt : Nat) (hcnt : cnt ≤ 20000) (o1 p1 o2 p2 : Int) (La Lb t : List Int) (h : Hl) (w : World) (hin : HlIn w w.heap.size ⟨rA, wA, bA, cA, rn, wn, bn, cn⟩ h) (ok : HlOk h) (hc : ClIn w rn aA zA o1 p1 o2 p2 La Lb) (ht : Rd w w.heap.size 1 encI tA rn t) (htb : ∀ x ∈ t, 0 ≤ x ∧ x ≤ 1000000) :
    Calls Try.prog 23 #[.agg #[.slice rA rn rc, .slice wA wn wc, .slice bA bn bc, .slice cA cn cc], .slice tA rn tc, .agg #[.slice aA rn ac, .int .i64 o1, .int .i64 p1, .slice zA rn zc, .int .i64 o2, .int .i64 p2], .int .i64 (cnt : Int)] w fun e w' => ∃ n m : Int, e = .returned (.tuple #[.int .i64 n, .int .i64 m, .int .i64 0]) ∧ RideIs h (itL h Lb o2 p2 t) cnt n m ∧ Below w.heap.size w w' := by
  have hn8 : rn ≤ 8 := by have h9 := hin.rm.1; dsimp only at h9; rw [← h9]; exact ok.n8
  have KC := Lib.hid (fun W (hW : Below w.heap.size w W) => checkClass_yes rA wA bA cA rn rc wn wc bn bc cn cc aA zA ac zc o1 p1 o2 p2 La Lb h W (hin.next hW) ok (hc.next hW))
  have KN := Lib.hid (fun (ab : Nat) W (hW : Below w.heap.size w W) (hk : Blk W ab 30 #[.slice tA rn tc]) => checkNumbers_yes rA wA bA cA rn rc wn wc bn bc cn cc (some ⟨ab, 0, none⟩) none 1 1 0 0 [⟨tA, rn, tc⟩] [] W (by omega) (by omega) (by omega) (rd_one (f := Ls.enc) _ hk rfl) (Rd.nil _ _ _ _) (fun x hx => by
    rw [List.mem_singleton.1 hx]
    exact ⟨rfl, t, ht.next hW, htb⟩) (fun x hx => by simp at hx))
  have KT := Lib.hid (fun W => isTime_yes (n := (cnt : Int)) ⟨by omega, by omega⟩ W)
  have KR := Lib.hid (fun W (hW : Below w.heap.size w W) => ride_any rA wA bA cA tA zA rn rc wn wc bn bc cn cc zc tc cnt hcnt o2 p2 h t Lb W (hin.next hW) ok hc.o.2 hc.p.2 (ht.next hW) htb (hc.rb.next hW) hc.bb)
  have g1 : w.heap.size < w.heap.size + 1 := by omega
  have g2 : w.heap.size < w.heap.size + 1 + 1 := by omega
  clear hin ok hc hn8 ht htb
  go_enter Try.func23, Try.ntmps23
  go_wp2_with fail
  obtain ⟨bx, hbx⟩ : ∃ z, z = w.heap.size := ⟨_, rfl⟩
  obtain ⟨w1, hw1⟩ : ∃ z, z = w.alloc (.cells #[.slice rA rn rc, .slice wA wn wc, .slice bA bn bc, .slice cA cn cc] 28) := ⟨_, rfl⟩
  have BX : Hid (Blk w1 bx 28 #[.slice rA rn rc, .slice wA wn wc, .slice bA bn bc, .slice cA cn cc]) := Lib.hid (by rw [hw1, hbx]; exact heap_alloc_new w _)
  have Sw1 : Hid (w1.heap.size = bx + 1) := Lib.hid (by rw [hw1, hbx, World.size_alloc])
  have Zbx : Hid (w.heap.size ≤ bx) := Lib.hid (by rw [hbx]; exact Nat.le_refl _)
  have hBn : Below w.heap.size w w1 := by rw [hw1]; exact (Below.refl _ _).alloc (Nat.le_refl _) _
  rw [← hw1, ← hbx]
  have B0 : Hid (Below w.heap.size w w1) := Lib.hid hBn
  clear hw1 hbx hBn
  obtain ⟨kb, hkb⟩ : ∃ z, z = bx + 1 := ⟨_, rfl⟩
  obtain ⟨w2, hw2⟩ : ∃ z, z = w1.alloc (.cells #[.slice aA rn ac, .int .i64 o1, .int .i64 p1, .slice zA rn zc, .int .i64 o2, .int .i64 p2] 37) := ⟨_, rfl⟩
  have KB : Hid (Blk w2 kb 37 #[.slice aA rn ac, .int .i64 o1, .int .i64 p1, .slice zA rn zc, .int .i64 o2, .int .i64 p2]) := Lib.hid (by have e2 := heap_alloc_new w1 (.cells #[.slice aA rn ac, .int .i64 o1, .int .i64 p1, .slice zA rn zc, .int .i64 o2, .int .i64 p2] 37); rw [Sw1.out] at e2; rw [hw2, hkb]; exact e2)
  have Sw2 : Hid (w2.heap.size = kb + 1) := Lib.hid (by rw [hw2, hkb, World.size_alloc, Sw1.out])
  have Zkb : Hid (w1.heap.size = kb) := Lib.hid (by rw [Sw1.out, hkb])
  have hBn : Below w1.heap.size w1 w2 := by rw [hw2]; exact (Below.refl _ _).alloc (Nat.le_refl _) _
  rw [← hw2, ← hkb]
  have B1 : Hid (Below w1.heap.size w1 w2) := Lib.hid hBn
  clear hw2 hkb hBn
  refine (KC.out _ (below3 B0.out B1.out (Nat.le_refl _))).mono ?_
  rintro e w3 ⟨rfl, hB⟩
  have B2 : Hid (Below w2.heap.size w2 w3) := Lib.hid hB
  clear hB
  clear g1 g2
  have hbk := BX.out.below (below3 B1.out B2.out (Nat.le_refl _)) BX.out.lt
  have s0 := hbk.cell 0
  have s1 := hbk.cell 1
  have s2 := hbk.cell 2
  have s3 := hbk.cell 3
  simp only [List.getElem?_toArray, List.getElem?_cons_zero, List.getElem?_cons_succ] at s0 s1 s2 s3
  have zs := hbk.lt
  clear hbk
  go_wp2_with fail
  obtain ⟨ab, hab⟩ : ∃ z, z = w3.heap.size := ⟨_, rfl⟩
  obtain ⟨w4, hw4⟩ : ∃ z, z = w3.alloc (.cells #[.slice tA rn tc] 30) := ⟨_, rfl⟩
  have AB : Hid (Blk w4 ab 30 #[.slice tA rn tc]) := Lib.hid (by rw [hw4, hab]; exact heap_alloc_new w3 _)
  have Sw4 : Hid (w4.heap.size = ab + 1) := Lib.hid (by rw [hw4, hab, World.size_alloc])
  have Zab : Hid (w3.heap.size ≤ ab) := Lib.hid (by rw [hab]; exact Nat.le_refl _)
  have hBn : Below w3.heap.size w3 w4 := by rw [hw4]; exact (Below.refl _ _).alloc (Nat.le_refl _) _
  rw [← hw4, ← hab]
  have B3 : Hid (Below w3.heap.size w3 w4) := Lib.hid hBn
  clear hw4 hab hBn
  refine (KN.out ab w4 (below3 (below3 (below3 B0.out B1.out (Nat.le_refl _)) B2.out (Nat.le_refl _)) B3.out (Nat.le_refl _)) AB.out).mono ?_
  rintro e w5 ⟨rfl, hB⟩
  have B4 : Hid (Below w4.heap.size w4 w5) := Lib.hid hB
  clear hB s0 s1 s2 s3 zs
  go_wp2_with fail
  refine (KT.out w5).mono ?_
  rintro e w5b ⟨rfl, hw9⟩
  obtain rfl := hw9.symm
  have hbk := BX.out.below (below3 (below3 (below3 B1.out B2.out (Nat.le_refl _)) B3.out (Nat.le_refl _)) B4.out (Nat.le_refl _)) BX.out.lt
  have s0 := hbk.cell 0
  have s1 := hbk.cell 1
  have s2 := hbk.cell 2
  have s3 := hbk.cell 3
  simp only [List.getElem?_toArray, List.getElem?_cons_zero, List.getElem?_cons_succ] at s0 s1 s2 s3
  have zs := hbk.lt
  clear hbk
  have hbk := KB.out.below (below3 (below3 B2.out B3.out (Nat.le_refl _)) B4.out (Nat.le_refl _)) KB.out.lt
  have t0 := hbk.cell 0
  have t1 := hbk.cell 1
  have t2 := hbk.cell 2
  have t3 := hbk.cell 3
  have t4 := hbk.cell 4
  have t5 := hbk.cell 5
  simp only [List.getElem?_toArray, List.getElem?_cons_zero, List.getElem?_cons_succ] at t0 t1 t2 t3 t4 t5
  have zt := hbk.lt
  clear hbk
  go_wp2_with fail
  refine (KR.out _ (below3 (below3 (below3 (below3 B0.out B1.out (Nat.le_refl _)) B2.out (Nat.le_refl _)) B3.out (Nat.le_refl _)) B4.out (Nat.le_refl _))).mono ?_
  rintro e w6 ⟨hB, n, m, rfl, hri⟩
  have B5 : Hid (Below w5.heap.size w5 w6) := Lib.hid hB
  have HF := Lib.hid (And.intro hri ((below3 (below3 (below3 (below3 (below3 B0.out B1.out (Nat.le_refl _)) B2.out (Nat.le_refl _)) B3.out (Nat.le_refl _)) B4.out (Nat.le_refl _)) B5.out (Nat.le_refl _))))
  clear hB hri
  go_wp2
  refine bodyPost_ret (v := .tuple #[.int .i64 n, .int .i64 m, .int .i64 0]) (by simp [results, Try.results23, go_sem]) rfl ?_
  exact ⟨n, m, rfl, HF.out⟩
end Go.Proofs.Ytldbciflpnhfpaa
