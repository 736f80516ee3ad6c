/- law11: Read: readings of numbers, no two of a slot. -/
import Derived.Test.YtcecbohaajocfaaMtFg
import Derived.Test.YtcecbohaajocfaaMtG
import Derived.Maps.AppendAt
import Derived.Carry

set_option linter.unusedSimpArgs false
set_option linter.unusedVariables false
namespace Go.Proofs.Ytcecbohaajocfaa
open Go.RowKit

def rdAt (l : List Int) (i : Nat) : Rg := ⟨(l.getD i 0).tmod 5, (l.getD i 0).tdiv 5, l.getD (i + 1) 0⟩
def rdK (l : List Int) : Nat → List Rg
  | 0 => []
  | k + 1 => if hasR (rdK l k) (rdAt l (2 * k)) = true then rdK l k else rdK l k ++ [rdAt l (2 * k)]
/-- A reading of bytes. -/
structure RgB (r : Rg) : Prop where
  m : 0 ≤ r.m ∧ r.m ≤ 4
  h : 0 ≤ r.h ∧ r.h ≤ 51
  v : 0 ≤ r.v ∧ r.v ≤ 255
theorem RgB.ok {r : Rg} (h : RgB r) : RgOk r := ⟨by have := h.m; omega, by have := h.h; omega, by have := h.v; omega⟩
theorem getU {l : List Int} (h : U8s l) (i : Nat) : 0 ≤ l.getD i 0 ∧ l.getD i 0 ≤ 255 := by
  rw [List.getD_eq_getElem?_getD]
  cases hx : l[i]? with
  | none => exact ⟨by simp, by simp⟩
  | some x => exact h x (List.mem_of_getElem? hx)
theorem byte5 {x : Int} (h : 0 ≤ x ∧ x ≤ 255) : (0 ≤ x.tmod 5 ∧ x.tmod 5 ≤ 4) ∧ (0 ≤ x.tdiv 5 ∧ x.tdiv 5 ≤ 51) := by
  have h1 := tmod_bd (x := x) (n := 5) h.1 (by decide)
  have h2 : x.tdiv 5 = x / 5 := Int.tdiv_eq_ediv_of_nonneg h.1
  rw [h2]
  omega
theorem rdAt_ok {l : List Int} (h : U8s l) (i : Nat) : RgB (rdAt l i) := by
  obtain ⟨h1, h2⟩ := byte5 (getU h i)
  exact ⟨h1, h2, getU h (i + 1)⟩
theorem rdK_len (l : List Int) (k : Nat) : (rdK l k).length ≤ k := by
  induction k with
  | zero => exact Nat.le_refl _
  | succ k ih =>
    unfold rdK
    split
    · omega
    · rw [List.length_append]; simp only [List.length_cons, List.length_nil]; omega
theorem rgA_mem {l : List Rg} {i : Nat} (h : i < l.length) : rgA l i ∈ l := by
  unfold rgA
  rw [List.getD_eq_getElem?_getD, List.getElem?_eq_getElem h]
  exact List.getElem_mem h
theorem rgA_left {l : List Rg} {i : Nat} (r : Rg) (h : i < l.length) : rgA (l ++ [r]) i = rgA l i := by
  unfold rgA
  rw [List.getD_eq_getElem?_getD, List.getD_eq_getElem?_getD, List.getElem?_append_left h]
theorem rgA_last (l : List Rg) (r : Rg) : rgA (l ++ [r]) l.length = r := by
  unfold rgA
  rw [List.getD_eq_getElem?_getD, List.getElem?_append_right (Nat.le_refl _)]
  simp
theorem rdK_mem {l : List Int} (h : U8s l) (k : Nat) : ∀ r ∈ rdK l k, RgB r := by
  induction k with
  | zero => intro r hr; cases hr
  | succ k ih =>
    intro r hr
    unfold rdK at hr
    split at hr
    · exact ih r hr
    · rcases List.mem_append.1 hr with h1 | h1
      · exact ih r h1
      · rw [List.mem_singleton.1 h1]; exact rdAt_ok h _
theorem rdK_dis (l : List Int) (k : Nat) : ∀ i j, i < j → j < (rdK l k).length → (rgA (rdK l k) i).slot ≠ (rgA (rdK l k) j).slot := by
  induction k with
  | zero => intro i j _ h; simp [rdK] at h
  | succ k ih =>
    intro i j hij hj
    unfold rdK at hj ⊢
    split
    · rename_i h; rw [if_pos h] at hj; exact ih i j hij hj
    · rename_i h
      rw [if_neg h, List.length_append] at hj
      simp only [List.length_cons, List.length_nil] at hj
      by_cases e : j = (rdK l k).length
      · subst e
        rw [rgA_left _ hij, rgA_last]
        intro e2
        exact h (hasR_yes hij (hitR_iff.2 e2))
      · rw [rgA_left _ (by omega), rgA_left _ (by omega)]
        exact ih i j hij (by omega)
theorem rdK_ok {l : List Int} (h : U8s l) (k : Nat) : RgsOk (rdK l k) := ⟨fun i hi => (rdK_mem h k _ (rgA_mem hi)).ok, rdK_dis l k⟩
theorem readInfo : (Try.prog.info? 65).map (fun i => (i.zero, i.size, i.bytes)) = some (some (.agg #[.int .i64 0, .int .i64 0, .int .i64 0]), 3, 24) := by kernel_rfl
def r5Phi (z lb lo n c i : Nat) (x y p q : Int) : Nat → Value → World → (Nat → Nat) → Prop
  | 0, v, _, _ => v = .slice (some ⟨lb, lo, none⟩) n c
  | 1, v, _, _ => v = .int .i64 ((i : Nat) : Int)
  | 2, v, _, _ => v = .pointer (some ⟨lb, lo + i, none⟩)
  | 3, v, _, _ => v = .int .u8 x
  | 4, v, _, _ => v = .int .u8 p
  | 5, v, _, _ => v = .int .i64 p
  | 6, v, _, _ => v = .slice (some ⟨lb, lo, none⟩) n c
  | 7, v, _, _ => v = .int .i64 ((i : Nat) : Int)
  | 8, v, _, _ => v = .pointer (some ⟨lb, lo + i, none⟩)
  | 9, v, _, _ => v = .int .u8 x
  | 10, v, _, _ => v = .int .u8 q
  | 11, v, _, _ => v = .int .i64 q
  | 12, v, _, _ => v = .slice (some ⟨lb, lo, none⟩) n c
  | 13, v, _, _ => v = .int .i64 ((i : Nat) : Int)
  | 14, v, _, _ => v = .int .i64 ((i : Nat) + 1 : Int)
  | 15, v, _, _ => v = .pointer (some ⟨lb, lo + (i + 1), none⟩)
  | 16, v, _, _ => v = .int .u8 y
  | 17, v, _, _ => v = .int .i64 y
  | 18, v, _, _ => v = .agg #[.int .i64 p, .int .i64 q, .int .i64 y]
  | 19, v, W, γ => v = .pointer (some ⟨γ 30, 0, none⟩) ∧ z ≤ γ 30 ∧ (γ 20 = 0 → Blk W (γ 30) 65 #[.int .i64 0, .int .i64 0, .int .i64 0])
  | 20, _, W, γ => Blk W (γ 30) 65 #[.int .i64 p, .int .i64 q, .int .i64 y]
  | _, _, _, _ => True
theorem r5Phi_next {z lb lo n c i : Nat} {x y p q : Int} {j : Nat} {v : Value} {W W' : World} {γ γ' : Nat → Nat} (hb : Below W.heap.size W W') (h6 : (j = 19 ∨ j = 20) → γ' 30 = γ 30 ∧ γ' 20 = γ 20) (h : r5Phi z lb lo n c i x y p q j v W γ) : r5Phi z lb lo n c i x y p q j v W' γ' := by
  unfold r5Phi at h ⊢
  split at h
  all_goals first | exact h | trivial | skip
  · obtain ⟨e1, e2⟩ := h6 (Or.inl rfl)
    rw [e1, e2]
    exact ⟨h.1, h.2.1, fun e => (h.2.2 e).below hb (h.2.2 e).lt⟩
  · rw [(h6 (Or.inr rfl)).1]; exact h.below hb h.lt
def stepsR (n : Nat) : Nat := min (n / 2) 20
set_option maxRecDepth 100000 in
set_option maxHeartbeats 8000000 in
theorem Read_any (A : Option Addr) (n c : Nat) (l : List Int) (w : World) (hl : Rd w w.heap.size 1 encU A n l) (hu : U8s l) (hn : n ≤ 9223372036854775807) :
    Calls Try.prog 21 #[.slice A n c] w fun e w' => ∃ (A' : Option Addr) (m c' : Nat), e = .returned (.slice A' m c') ∧ m = (rdK l (stepsR n)).length ∧ w'.ownsRow w.heap.size 65 3 (.slice A' m c') m ((rdK l (stepsR n)).flatMap Rg.enc) ∧ Below w.heap.size w w' := by
  have HR := Lib.hid (And.intro hl (And.intro hu (And.intro hl.1 hn)))
  obtain ⟨i0, hi0, hz0, hz1, hz2⟩ := info_parts readInfo
  have hi := Lib.hid (And.intro hi0 (And.intro hz0 (And.intro hz1 hz2)))
  have hn0 : (0 : Int) ≤ (n : Int) := by omega
  have hn1 : (n : Int) ≤ 9223372036854775807 := by omega
  clear hl hu hn hi0 hz0 hz1 hz2
  go_enter Try.func21, Try.ntmps21
  go_wp2
  go_loopw [3, 4] (fun ov iv wr => ∃ (k : Nat) (A' : Option Addr) (m ca : Nat), k ≤ stepsR n ∧ ov = .slice A' m ca ∧ iv = .int .i64 ((2 * k : Nat) : Int) ∧ Hid (m = (rdK l k).length ∧ Below w.heap.size w wr ∧ wr.ownsRow w.heap.size 65 3 (.slice A' m ca) m ((rdK l k).flatMap Rg.enc))) (fun _ iv _ => 41 - (intOf iv).toNat)
  case atStart => exact ⟨0, none, 0, 0, Nat.zero_le _, rfl, rfl, Lib.hid ⟨rfl, Below.refl _ _, World.ownsRow_nil _ _ _ _⟩⟩
  case round =>
    obtain ⟨k, A', m, ca, hk, rfl, rfl, HX⟩ := hrel
    have hk20 : k ≤ 20 := by unfold stepsR at hk; omega
    have wk1 : IntKind.i64.wrap (((2 * k : Nat) : Int) + 1) = ((2 * k : Nat) : Int) + 1 := IntWalk.i64_in _ (by omega)
    have wk2 : IntKind.i64.wrap (((2 * k : Nat) : Int) + 2) = ((2 * k : Nat) : Int) + 2 := IntWalk.i64_in _ (by omega)
    by_cases h1 : 2 * k + 1 < n
    · by_cases h2 : 2 * k < 40
      · have HK : Hid (2 * k + 1 < n ∧ 2 * k < 40 ∧ k + 1 ≤ stepsR n) := Lib.hid ⟨h1, h2, by unfold stepsR; omega⟩
        obtain ⟨i, hi2⟩ : ∃ z, z = 2 * k := ⟨_, rfl⟩
        have HI := Lib.hid hi2
        rw [← hi2] at wk1 wk2 h1 h2 ⊢
        have hi0 : (0 : Int) ≤ ((i : Nat) : Int) := by omega
        have hi3 : (0 : Int) ≤ ((i : Nat) : Int) + 1 := by omega
        have hi1 : ((i : Nat) : Int) + 1 < (n : Int) := by omega
        have hin : ((i : Nat) : Int) < (n : Int) := by omega
        have hi40 : ((i : Nat) : Int) < 40 := by omega
        obtain ⟨lb, lo, x, eA, hlb, hx, hcx⟩ := HR.out.1.at_ (show i < n by omega)
        obtain ⟨lb2, lo2, y, eA2, hlb2, hy, hcy⟩ := HR.out.1.at_ (show i + 1 < n by omega)
        have e9 : (⟨lb, lo, none⟩ : Addr) = ⟨lb2, lo2, none⟩ := Option.some.inj (eA.symm.trans eA2)
        simp only [Addr.mk.injEq, and_true] at e9
        obtain ⟨e91, e92⟩ := e9
        subst e91 e92
        have hgx : l.getD i 0 = x := by rw [List.getD_eq_getElem?_getD, hx]; rfl
        have hgy : l.getD (i + 1) 0 = y := by rw [List.getD_eq_getElem?_getD, hy]; rfl
        have hbx := HR.out.2.1 _ (List.mem_of_getElem? hx)
        have hby := HR.out.2.1 _ (List.mem_of_getElem? hy)
        obtain ⟨hp, hq⟩ := byte5 hbx
        obtain ⟨p, ep⟩ : ∃ z, z = x.tmod 5 := ⟨_, rfl⟩
        obtain ⟨q, eq⟩ : ∃ z, z = x.tdiv 5 := ⟨_, rfl⟩
        rw [← ep] at hp
        rw [← eq] at hq
        have HRA : Hid (rdAt l i = ⟨p, q, y⟩) := Lib.hid (by unfold rdAt; rw [hgx, hgy, ep, eq])
        have HXY : Hid (wr.cell? ⟨lb, lo + i, none⟩ = some (.int .u8 x) ∧ wr.cell? ⟨lb, lo + (i + 1), none⟩ = some (.int .u8 y) ∧ lb < wr.heap.size) := Lib.hid ⟨(HX.out.2.1.cell (p := ⟨lb, lo + i, none⟩) hlb).trans (cellU hcx), (HX.out.2.1.cell (p := ⟨lb, lo + (i + 1), none⟩) hlb).trans (cellU hcy), Nat.lt_of_lt_of_le hlb HX.out.2.1.size⟩
        have ep2 : x.tmod 5 = p := ep.symm
        have eq2 : x.tdiv 5 = q := eq.symm
        have wp1 : IntKind.i64.wrap p = p := IntWalk.i64_in _ (by omega)
        have wq1 : IntKind.i64.wrap q = q := IntWalk.i64_in _ (by omega)
        have wy1 : IntKind.i64.wrap y = y := IntWalk.i64_in _ (by omega)
        have wp2 : IntKind.u8.wrap p = p := IntWalk.u8_in _ (by omega)
        have wq2 : IntKind.u8.wrap q = q := IntWalk.u8_in _ (by omega)
        have tn1 : (((i : Nat) : Int) + 1).toNat = i + 1 := by omega
        have HPQ := Lib.hid (And.intro hp (And.intro hq hby))
        clear hk hk20 h1 h2 hi2 hlb hx hcx hlb2 hy hcy eA2 hgx hgy hbx hby hp hq ep eq
        subst eA
        go_wp2
        refine wp_region_free10 20 (by kernel_rfl) [some 17, some 18, some 19, some 20, some 21, some 22, some 23, some 24, some 25, some 26, some 27, some 28, some 29, some 30, some 31, some 32, some 33, some 34, some 35, some 5, none] [[], [], [0, 1], [2], [3], [4], [], [], [6, 7], [8], [9], [10], [], [], [13], [12, 14], [15], [16], [5, 11, 17], [], [19, 18, 0, 1, 2, 3, 4, 5, 6, 7, 8, 9, 10, 11, 12, 13, 14, 15, 16, 17, 18, 19]] [(0, .slice (some ⟨lb, lo, none⟩) n c), (4, .int .i64 ((i : Nat) : Int))] (fun W _ => Below wr.heap.size wr W) (r5Phi wr.heap.size lb lo n c i x y p q) (fun i _ γ => i = 20 → γ 20 = 0) (by kernel_rfl) (by kernel_rfl) rfl (by kernel_rfl) ?_ ?_ ⟨fun _ => 0, (Below.refl _ _).drew, fun _ _ _ => rfl⟩ ?_ ?_
        · intro z hz
          simp only [List.mem_cons, List.mem_nil_iff, or_false] at hz
          rcases hz with rfl | rfl
          all_goals exact ⟨by kernel_rfl, rfl⟩
        · intro i v W γ hi h
          rcases i with _ | _ | _ | _ | _ | _ | _ | _ | _ | _ | _ | _ | _ | _ | _ | _ | _ | _ | _ | _ | _ | i
          all_goals first | exact h | (simp at hi)
        · refine ⟨?_, ?_, ?_, ?_, ?_, ?_, ?_, ?_, ?_, ?_, ?_, ?_, ?_, ?_, ?_, ?_, ?_, ?_, ?_, ?_, ?_, trivial⟩
          all_goals
            intro a9 W γ ev hcc hff hfx hR hψ hpre
            simp only [List.mem_cons, List.mem_nil_iff, or_false, forall_eq, forall_eq_or_imp] at hfx
            obtain ⟨f0, f1⟩ := hfx
            have HR := Lib.hid hR
            clear hR
          · refine ⟨fun hg K hK => ?_, trivial⟩
            clear hg
            clear hpre hψ
            go_simp
            exact hK _ _ γ HR.out (fun _ _ _ _ h => h) (fun _ _ _ h => h) rfl
          · refine ⟨fun hg K hK => ?_, trivial⟩
            clear hg
            clear hpre hψ
            go_simp
            exact hK _ _ γ HR.out (fun _ _ _ _ h => h) (fun _ _ _ h => h) rfl
          · refine ⟨fun hg K hK => ?_, trivial⟩
            clear hg
            have q0 : ev (.tmp 17) = _ := hpre 0 (by decide)
            have q1 : ev (.tmp 18) = _ := hpre 1 (by decide)
            clear hpre hψ
            go_simp
            exact hK _ _ γ HR.out (fun _ _ _ _ h => h) (fun _ _ _ h => h) rfl
          · refine ⟨fun hg K hK => ?_, trivial⟩
            clear hg
            have q0 : ev (.tmp 19) = _ := hpre 2 (by decide)
            have hc := (Below.cell (HR.out : Below wr.heap.size wr W) (p := ⟨lb, lo + i, none⟩) HXY.out.2.2).trans HXY.out.1
            have zc := Nat.lt_of_lt_of_le HXY.out.2.2 HR.out.size
            clear hpre hψ
            go_simp
            exact hK _ _ γ HR.out (fun _ _ _ _ h => h) (fun _ _ _ h => h) rfl
          · refine ⟨fun hg K hK => ?_, trivial⟩
            clear hg
            have q0 : ev (.tmp 20) = _ := hpre 3 (by decide)
            clear hpre hψ
            go_simp
            exact hK _ _ γ HR.out (fun _ _ _ _ h => h) (fun _ _ _ h => h) rfl
          · refine ⟨fun hg K hK => ?_, trivial⟩
            clear hg
            have q0 : ev (.tmp 21) = _ := hpre 4 (by decide)
            clear hpre hψ
            go_simp
            exact hK _ _ γ HR.out (fun _ _ _ _ h => h) (fun _ _ _ h => h) rfl
          · refine ⟨fun hg K hK => ?_, trivial⟩
            clear hg
            clear hpre hψ
            go_simp
            exact hK _ _ γ HR.out (fun _ _ _ _ h => h) (fun _ _ _ h => h) rfl
          · refine ⟨fun hg K hK => ?_, trivial⟩
            clear hg
            clear hpre hψ
            go_simp
            exact hK _ _ γ HR.out (fun _ _ _ _ h => h) (fun _ _ _ h => h) rfl
          · refine ⟨fun hg K hK => ?_, trivial⟩
            clear hg
            have q0 : ev (.tmp 23) = _ := hpre 6 (by decide)
            have q1 : ev (.tmp 24) = _ := hpre 7 (by decide)
            clear hpre hψ
            go_simp
            exact hK _ _ γ HR.out (fun _ _ _ _ h => h) (fun _ _ _ h => h) rfl
          · refine ⟨fun hg K hK => ?_, trivial⟩
            clear hg
            have q0 : ev (.tmp 25) = _ := hpre 8 (by decide)
            have hc := (Below.cell (HR.out : Below wr.heap.size wr W) (p := ⟨lb, lo + i, none⟩) HXY.out.2.2).trans HXY.out.1
            have zc := Nat.lt_of_lt_of_le HXY.out.2.2 HR.out.size
            clear hpre hψ
            go_simp
            exact hK _ _ γ HR.out (fun _ _ _ _ h => h) (fun _ _ _ h => h) rfl
          · refine ⟨fun hg K hK => ?_, trivial⟩
            clear hg
            have q0 : ev (.tmp 26) = _ := hpre 9 (by decide)
            clear hpre hψ
            go_simp
            exact hK _ _ γ HR.out (fun _ _ _ _ h => h) (fun _ _ _ h => h) rfl
          · refine ⟨fun hg K hK => ?_, trivial⟩
            clear hg
            have q0 : ev (.tmp 27) = _ := hpre 10 (by decide)
            clear hpre hψ
            go_simp
            exact hK _ _ γ HR.out (fun _ _ _ _ h => h) (fun _ _ _ h => h) rfl
          · refine ⟨fun hg K hK => ?_, trivial⟩
            clear hg
            clear hpre hψ
            go_simp
            exact hK _ _ γ HR.out (fun _ _ _ _ h => h) (fun _ _ _ h => h) rfl
          · refine ⟨fun hg K hK => ?_, trivial⟩
            clear hg
            clear hpre hψ
            go_simp
            exact hK _ _ γ HR.out (fun _ _ _ _ h => h) (fun _ _ _ h => h) rfl
          · refine ⟨fun hg K hK => ?_, trivial⟩
            clear hg
            have q0 : ev (.tmp 30) = _ := hpre 13 (by decide)
            clear hpre hψ
            go_simp
            exact hK _ _ γ HR.out (fun _ _ _ _ h => h) (fun _ _ _ h => h) rfl
          · refine ⟨fun hg K hK => ?_, trivial⟩
            clear hg
            have q0 : ev (.tmp 29) = _ := hpre 12 (by decide)
            have q1 : ev (.tmp 31) = _ := hpre 14 (by decide)
            clear hpre hψ
            go_simp
            exact hK _ _ γ HR.out (fun _ _ _ _ h => h) (fun _ _ _ h => h) rfl
          · refine ⟨fun hg K hK => ?_, trivial⟩
            clear hg
            have q0 : ev (.tmp 32) = _ := hpre 15 (by decide)
            have hc := (Below.cell (HR.out : Below wr.heap.size wr W) (p := ⟨lb, lo + (i + 1), none⟩) HXY.out.2.2).trans HXY.out.2.1
            have zc := Nat.lt_of_lt_of_le HXY.out.2.2 HR.out.size
            clear hpre hψ
            go_simp
            exact hK _ _ γ HR.out (fun _ _ _ _ h => h) (fun _ _ _ h => h) rfl
          · refine ⟨fun hg K hK => ?_, trivial⟩
            clear hg
            have q0 : ev (.tmp 33) = _ := hpre 16 (by decide)
            clear hpre hψ
            go_simp
            exact hK _ _ γ HR.out (fun _ _ _ _ h => h) (fun _ _ _ h => h) rfl
          · refine ⟨fun hg K hK => ?_, trivial⟩
            clear hg
            have q0 : ev (.tmp 22) = _ := hpre 5 (by decide)
            have q1 : ev (.tmp 28) = _ := hpre 11 (by decide)
            have q2 : ev (.tmp 34) = _ := hpre 17 (by decide)
            clear hpre hψ
            go_simp
            exact hK _ _ γ HR.out (fun _ _ _ _ h => h) (fun _ _ _ h => h) rfl
          · refine ⟨fun hg K hK => ?_, trivial⟩
            clear hg
            clear hpre hψ
            go_simp
            have hB5 : Below W.heap.size W (W.alloc (.cells #[.int .i64 0, .int .i64 0, .int .i64 0] 65)) := (Below.refl _ _).alloc (Nat.le_refl _) _
            exact hK _ _ (fun i => if i = 30 then W.heap.size else γ i) (below3 HR.out hB5 (Nat.le_refl _)) (fun j u hj hne h => r5Phi_next hB5 (fun e => by rcases e with rfl | rfl; exact absurd rfl hne; exact absurd (by decide) hj) h) (fun _ j _ h e => h e) ⟨rfl, HR.out.size, fun _ => heap_alloc_new W _⟩
          · refine ⟨fun hg K hK => ?_, trivial⟩
            clear hg
            have q0 : ev (.tmp 5) = _ := (hpre 19 (by decide)).1
            have q1 : ev (.tmp 35) = _ := hpre 18 (by decide)
            have hz := (hpre 19 (by decide)).2.1
            have hbz := (hpre 19 (by decide)).2.2 (hψ rfl)
            obtain ⟨cb, hcb⟩ : ∃ z, z = γ 30 := ⟨_, rfl⟩
            rw [← hcb] at q0 hz hbz
            have zl := hbz.lt
            have fl9 := hbz.frozen
            have e0 := hbz.cell 0
            have e1 := hbz.cell 1
            have e2 := hbz.cell 2
            simp only [List.getElem?_toArray, List.getElem?_cons_zero, List.getElem?_cons_succ] at e0 e1 e2
            have HX9 := Lib.hid (And.intro hbz (And.intro hz hcb))
            clear hpre hψ hbz hz hcb
            go_simp
            obtain ⟨hbz, hz, hcb⟩ := HX9.out
            refine hK undef _ (fun i => if i = 20 then 1 else γ i) (((HR.out.setCell (p := ⟨cb, 0, none⟩) hz _).setCell (p := ⟨cb, 1, none⟩) hz _).setCell (p := ⟨cb, 2, none⟩) hz _) (fun j u h1 h2 h3 => ?_) (fun h => absurd rfl h) ?_
            · unfold r5Phi at h3 ⊢
              split at h3
              all_goals first | exact h3 | trivial | exact absurd rfl h2 | skip
              · exact ⟨h3.1, h3.2.1, fun e => by simp at e⟩
            · show Blk _ (γ 30) 65 #[.int .i64 p, .int .i64 q, .int .i64 y]
              rw [← hcb]
              have h := ((hbz.set_ 0 (.int .i64 p)).set_ 1 (.int .i64 q)).set_ 2 (.int .i64 y)
              simpa using h
        · intro vs wy γ hvl hR hφ
          have q19 := hφ 19 (by decide)
          have q20 := hφ 20 (by decide)
          have HR5 := Lib.hid hR
          clear hφ hR
          match vs, hvl with
          | [y0, y1, y2, y3, y4, y5, y6, y7, y8, y9, y10, y11, y12, y13, y14, y15, y16, y17, y18, y19, y20], _ =>
          simp only [List.getD_cons_zero, List.getD_cons_succ] at q19 q20
          obtain ⟨rb, hrb⟩ : ∃ z, z = γ 30 := ⟨_, rfl⟩
          obtain ⟨q19, zr, _⟩ := q19
          replace q20 : Blk wy (γ 30) 65 #[.int .i64 p, .int .i64 q, .int .i64 y] := q20
          rw [← hrb] at q19 zr q20
          obtain rfl : y19 = _ := q19
          have hbw := HR5.out
          have H5 : Hid (Below w.heap.size w wy ∧ Blk wy rb 65 #[.int .i64 p, .int .i64 q, .int .i64 y] ∧ wy.ownsRow w.heap.size 65 3 (.slice A' m ca) m ((rdK l k).flatMap Rg.enc)) := Lib.hid ⟨below3 HX.out.2.1 hbw (Nat.le_refl _), q20, row_next HX.out.2.2 hbw⟩
          have hm20 : m ≤ 20 := by have h1 := rdK_len l k; have h2 := HX.out.1; have h3 := HK.out.2.1; omega
          have KC := Lib.hid (containsR A' m ca (rdK l k) ⟨p, q, y⟩ rb wy (row_rd (fun _ => rfl) HX.out.1.symm H5.out.2.2) (by omega) H5.out.2.1)
          obtain ⟨t, ht⟩ : ∃ z, z = hasR (rdK l k) ⟨p, q, y⟩ := ⟨_, rfl⟩
          rw [← ht] at KC
          have HT : Hid (hasR (rdK l k) (rdAt l (2 * k)) = t) := Lib.hid (by rw [← HI.out, HRA.out, ht])
          clear hrb zr q20 hbw ht HR5 ep2 eq2 wp1 wq1 wy1 wp2 wq2 tn1
          simp [putAll]
          go_wp2_with fail
          refine KC.out.mono ?_
          rintro e w6 ⟨rfl, hB6⟩
          have H6 : Hid (Below w.heap.size w w6 ∧ Blk w6 rb 65 #[.int .i64 p, .int .i64 q, .int .i64 y] ∧ w6.ownsRow w.heap.size 65 3 (.slice A' m ca) m ((rdK l k).flatMap Rg.enc)) := Lib.hid ⟨below3 H5.out.1 hB6 (Nat.le_refl _), H5.out.2.1.below hB6 H5.out.2.1.lt, row_next H5.out.2.2 hB6⟩
          clear hB6 KC
          cases t
          · have HL9 : Hid (rdK l (k + 1) = rdK l k ++ [⟨p, q, y⟩]) := Lib.hid (by show (if _ then _ else _) = _; rw [HT.out, if_neg (by decide), ← HI.out, HRA.out])
            have e0 := H6.out.2.1.cell 0
            have e1 := H6.out.2.1.cell 1
            have e2 := H6.out.2.1.cell 2
            simp only [List.getElem?_toArray, List.getElem?_cons_zero, List.getElem?_cons_succ] at e0 e1 e2
            have ze := H6.out.2.1.lt
            have g1 : w6.heap.size < w6.heap.size + 1 := by omega
            go_wp2_with (at_builtin; refine wpList_append_own_at _ rfl (.tmp 40) (.tmp 42) 56 rfl w.heap.size 65 i0 (.agg #[.int .i64 0, .int .i64 0, .int .i64 0]) 3 24 Try.underlying56 hi.out.1 hi.out.2.1 hi.out.2.2.1 hi.out.2.2.2 rfl (by decide) (.slice A' m ca) m ((rdK l k).flatMap Rg.enc) rfl (H6.out.2.2.alloc _) ⟨w6.heap.size, 0, none⟩ 1 1 [.int .i64 p, .int .i64 q, .int .i64 y] rfl rfl ?_ ?_ ?_ ?_ ?_ ?_)
            case _ =>
              intro j z hz
              match j, hz with
              | 0, hz => simp only [List.getElem?_cons_zero, Option.some.injEq] at hz; subst hz; simp [Addr.add, go_sem]
              | 1, hz => simp only [List.getElem?_cons_zero, List.getElem?_cons_succ, Option.some.injEq] at hz; subst hz; simp [Addr.add, go_sem]
              | 2, hz => simp only [List.getElem?_cons_zero, List.getElem?_cons_succ, Option.some.injEq] at hz; subst hz; simp [Addr.add, go_sem]
            case _ => (intro z hz; simp only [List.mem_cons, List.mem_nil_iff, or_false] at hz; rcases hz with rfl | rfl | rfl <;> rfl)
            case _ => simp only [maxLen]; omega
            case _ => omega
            case _ => have := H6.out.1.size; simp only [World.size_alloc]; omega
            intro v' wz hown hg8 _ hob
            obtain ⟨A9, c9, rfl⟩ := row_slice hown
            have hX : Below w6.heap.size w6 (w6.alloc (.cells #[.int .i64 p, .int .i64 q, .int .i64 y] 65)) := (Below.refl _ _).alloc (Nat.le_refl _) _
            have HN9 : Hid (m + 1 = (rdK l (k + 1)).length ∧ Below w.heap.size w wz ∧ wz.ownsRow w.heap.size 65 3 (.slice A9 (m + 1) c9) (m + 1) ((rdK l (k + 1)).flatMap Rg.enc)) := Lib.hid ⟨by rw [HL9.out, List.length_append, ← HX.out.1]; rfl, (below3 H6.out.1 hX (Nat.le_refl _)).grown hg8 (by have := hX.size; have := H6.out.1.size; omega) (fun q e => (World.ownsRow.lt H6.out.2.2 q e).1), by
              rw [HL9.out, List.flatMap_append]
              exact hown⟩
            clear hown hg8 hob hX e0 e1 e2 ze g1
            go_wp2
            go_roundw
            case rel => exact ⟨k + 1, A9, m + 1, c9, HK.out.2.2, rfl, by rw [HI.out]; congr 1, HN9⟩
            case measure => have := HK.out; have := HI.out; simp [intOf]; omega
          · have HN9 : Hid (m = (rdK l (k + 1)).length ∧ Below w.heap.size w w6 ∧ w6.ownsRow w.heap.size 65 3 (.slice A' m ca) m ((rdK l (k + 1)).flatMap Rg.enc)) := Lib.hid (by
              have hL : rdK l (k + 1) = rdK l k := by show (if _ then _ else _) = _; rw [HT.out, if_pos rfl]
              rw [hL]
              exact ⟨HX.out.1, H6.out.1, H6.out.2.2⟩)
            go_wp2
            go_roundw
            case rel => exact ⟨k + 1, A', m, ca, HK.out.2.2, rfl, by rw [HI.out]; congr 1, HN9⟩
            case measure => have := HK.out; have := HI.out; simp [intOf]; omega
      · have hke : k = stepsR n := by unfold stepsR at hk ⊢; omega
        have HKE := Lib.hid hke
        have hd1 : ((2 * k : Nat) : Int) + 1 < (n : Int) := by omega
        have hd2 : ¬ (((2 * k : Nat) : Int) < 40) := by omega
        obtain ⟨i, hi2⟩ : ∃ z : Int, z = ((2 * k : Nat) : Int) := ⟨_, rfl⟩
        rw [← hi2] at wk1 hd1 hd2 ⊢
        clear hk hk20 h1 h2 hke hi2 wk2
        go_wp2
        go_ret
        exact ⟨A', m, ca, rfl, by rw [← HKE.out]; exact HX.out.1, by rw [← HKE.out]; exact HX.out.2.2, HX.out.2.1⟩
    · have hke : k = stepsR n := by unfold stepsR at hk ⊢; omega
      have HKE := Lib.hid hke
      have hd1 : ¬ (((2 * k : Nat) : Int) + 1 < (n : Int)) := by omega
      obtain ⟨i, hi2⟩ : ∃ z : Int, z = ((2 * k : Nat) : Int) := ⟨_, rfl⟩
      rw [← hi2] at wk1 hd1 ⊢
      clear hk hk20 h1 hke hi2 wk2
      go_wp2
      go_ret
      exact ⟨A', m, ca, rfl, by rw [← HKE.out]; exact HX.out.1, by rw [← HKE.out]; exact HX.out.2.2, HX.out.2.1⟩
end Go.Proofs.Ytcecbohaajocfaa
