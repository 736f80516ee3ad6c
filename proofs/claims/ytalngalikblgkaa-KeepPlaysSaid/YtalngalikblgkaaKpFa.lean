/- keep: play, Play, isOver. -/
import Derived.Test.YtalngalikblgkaaKpVp

set_option linter.unusedSimpArgs false
set_option linter.unusedVariables false
namespace Go.Proofs.Ytalngalikblgkaa
open Go.RowKit

/-- The state that follows with the certificate's control. -/
def nxF (g : Gm) (ctl : List Int) (s : Nat) (h : Int) : Int := (subL g s (ctl.getD s 0).toNat).getD h.toNat 0
def plF (g : Gm) (ctl : List Int) : Nat → List Int → List Int
  | _, [] => []
  | s, h :: t => nxF g ctl s h :: plF g ctl (nxF g ctl s h).toNat t
def lsF (g : Gm) (ctl : List Int) : Nat → List Int → Nat
  | s, [] => s
  | s, h :: t => lsF g ctl (nxF g ctl s h).toNat t
theorem plF_snoc (g : Gm) (ctl : List Int) (s : Nat) (l : List Int) (h : Int) : plF g ctl s (l ++ [h]) = plF g ctl s l ++ [nxF g ctl (lsF g ctl s l) h] := by
  induction l generalizing s with
  | nil => rfl
  | cons a l ih => show _ :: plF g ctl _ (l ++ [h]) = _; rw [ih]; rfl
theorem lsF_snoc (g : Gm) (ctl : List Int) (s : Nat) (l : List Int) (h : Int) : lsF g ctl s (l ++ [h]) = (nxF g ctl (lsF g ctl s l) h).toNat := by
  induction l generalizing s with
  | nil => rfl
  | cons a l ih => exact ih _
theorem plF_len (g : Gm) (ctl : List Int) (s : Nat) (l : List Int) : (plF g ctl s l).length = l.length := by
  induction l generalizing s with
  | nil => rfl
  | cons a l ih => show (plF g ctl _ l).length + 1 = _; rw [ih]; rfl
/-- With a right certificate a state that is in has a control in range, and all that follows is in. -/
theorem right_in {g : Gm} {inn : List Bool} {ctl rnk : List Int} (ok : GmOk g) (h : rightB g inn ctl rnk = true) {s : Nat} (hs : s < g.S) (hi : inn.getD s false = true) : ∃ c : Nat, ctl.getD s 0 = (c : Int) ∧ c < g.C ∧ g.good.getD s false = true ∧ ∀ k < g.H, ∃ t : Nat, (subL g s c)[k]? = some (t : Int) ∧ t < g.S ∧ inn.getD t false = true := by
  have h1 := rightB_iff.1 h s hs
  unfold rightF at h1
  rw [if_pos hi] at h1
  simp only [Bool.and_eq_true, decide_eq_true_eq] at h1
  obtain ⟨hg, hc, hk, _⟩ := h1
  have hc2 := inB_iff.1 hc
  obtain ⟨c, he⟩ : ∃ c : Nat, ctl.getD s 0 = (c : Int) := ⟨(ctl.getD s 0).toNat, by omega⟩
  rw [he, Int.toNat_natCast] at hk
  rw [he] at hc2
  refine ⟨c, he, by omega, hg, fun k hk2 => ?_⟩
  have hl := sub_len ok hs (show c < g.C by omega)
  have hx := List.getElem_mem (show k < (subL g s c).length by omega)
  have h2 := (List.all_eq_true.1 (show (subL g s c).all (isInB inn) = true from hk)) _ hx
  have hb := sub_bd ok hx
  have he2 : (subL g s c)[k]? = some (subL g s c)[k] := List.getElem?_eq_getElem (by omega)
  obtain ⟨x, hxe⟩ : ∃ z, z = (subL g s c)[k]'(by omega) := ⟨_, rfl⟩
  rw [← hxe] at h2 hb he2
  by_cases hx1 : x = -1
  · rw [hx1] at h2; cases h2
  · obtain ⟨t, rfl⟩ : ∃ t : Nat, x = (t : Int) := ⟨x.toNat, by omega⟩
    rw [isInB_nat] at h2
    exact ⟨t, he2, by omega, h2⟩
def plPhi (X : World) (g : Gm) (bx cb co cc s c h : Nat) (n : Int) (g5 : Value) (sl : List Int) : Nat → Value → World → (Nat → Nat) → Prop
  | 0, v, _, _ => v = .pointer (some ⟨bx, 0, none⟩)
  | 1, v, _, _ => v = g5
  | 2, v, _, _ => v = .int .i64 (s : Int)
  | 3, v, _, _ => v = .pointer (some ⟨bx, 5, none⟩)
  | 4, v, _, _ => v = .pointer (some ⟨bx, 6, none⟩)
  | 5, v, _, _ => v = .slice (some ⟨cb, co, none⟩) g.S cc
  | 6, v, _, _ => v = .int .i64 (s : Int)
  | 7, v, _, _ => v = .pointer (some ⟨cb, co + s, none⟩)
  | 8, v, _, _ => v = .int .i64 (c : Int)
  | 9, v, W, _ => ∃ A cp, v = .slice A g.H cp ∧ Rd W W.heap.size 1 encI A g.H sl
  | 10, v, _, _ => v = .int .i64 (h : Int)
  | 11, v, W, _ => ∃ lb lo, v = .pointer (some ⟨lb, lo + h, none⟩) ∧ lb < W.heap.size ∧ W.cell? ⟨lb, lo + h, none⟩ = some (.int .i64 n)
  | 12, v, _, _ => v = .int .i64 n
  | 13, v, _, _ => v = .int .i64 n
  | _, _, _, _ => True
theorem plPhi_next {X : World} {g : Gm} {bx cb co cc s c h : Nat} {n : Int} {g5 : Value} {sl : List Int} {j : Nat} {v : Value} {W W' : World} {γ : Nat → Nat} (hb : Below W.heap.size W W') (hh : plPhi X g bx cb co cc s c h n g5 sl j v W γ) : plPhi X g bx cb co cc s c h n g5 sl j v W' γ := by
  unfold plPhi at hh ⊢
  split at hh
  all_goals first | exact hh | trivial | skip
  · obtain ⟨A, cp, e, hr⟩ := hh; exact ⟨A, cp, e, hr.next hb⟩
  · obtain ⟨lb, lo, e, h1, h2⟩ := hh; exact ⟨lb, lo, e, Nat.lt_of_lt_of_le h1 hb.size, (hb.cell (p := ⟨lb, lo + h, none⟩) h1).trans h2⟩
theorem set_fill (done : List Int) (m : Nat) (x : Int) : (done ++ List.replicate (m + 1) 0).set done.length x = (done ++ [x]) ++ List.replicate m 0 := by
  rw [List.set_append_right _ _ (Nat.le_refl _), Nat.sub_self, List.replicate_succ, List.set_cons_zero, List.append_assoc]
  rfl
theorem fill_at (done : List Int) (m : Nat) : (done ++ List.replicate (m + 1) 0)[done.length]? = some (0 : Int) := by
  rw [List.getElem?_append_right (Nat.le_refl _), Nat.sub_self]
  rfl
set_option maxRecDepth 100000 in
set_option maxHeartbeats 4000000 in
theorem play_any (nA : Option Addr) (nn nc gb go gc ib io ic cb co cc rb ro rc : Nat) (g : Gm) (inn : List Bool) (ctl rnk : List Int) (s hn hc : Nat) (hA : Option Addr) (hs : List Int) (w : World) (hin : GmIn w w.heap.size ⟨nA, some ⟨gb, go, none⟩, nn, nc, g.S, gc⟩ g) (ok : GmOk g) (hI : Rd w w.heap.size 1 encB (some ⟨ib, io, none⟩) g.S inn) (hC : Rd w w.heap.size 1 encI (some ⟨cb, co, none⟩) g.S ctl) (hR : Rd w w.heap.size 1 encI (some ⟨rb, ro, none⟩) g.S rnk) (hr : rightB g inn ctl rnk = true) (hS : s < g.S) (hi : inn.getD s false = true) (hH : Rd w w.heap.size 1 encI hA hn hs) (hb : ∀ x ∈ hs, 0 ≤ x ∧ x < g.H) (hn9 : hn ≤ 10000) :
    Calls Try.prog 53 #[.agg #[.int .i64 (g.S : Int), .int .i64 (g.C : Int), .int .i64 (g.H : Int), .slice nA nn nc, .slice (some ⟨gb, go, none⟩) g.S gc, .slice (some ⟨ib, io, none⟩) g.S ic, .slice (some ⟨cb, co, none⟩) g.S cc, .slice (some ⟨rb, ro, none⟩) g.S rc], .int .i64 (s : Int), .slice hA hn hc] w fun e w' => ∃ lb, e = .returned (.slice (some ⟨lb, 0, none⟩) hn hn) ∧ Blk w' lb 3 (intsA (plF g ctl s hs)) ∧ Below w.heap.size w w' := by
  have KA0 := Lib.hid (fun (t c : Nat) W (h : Below w.heap.size w W) (ht : t < g.S) (hc : c < g.C) => after_any nA (some ⟨gb, go, none⟩) nn nc g.S gc g t c W (hin.next' h) ok ht hc)
  have HRT : Hid (∀ t < g.S, inn.getD t false = true → ∃ c : Nat, ctl.getD t 0 = (c : Int) ∧ c < g.C ∧ g.good.getD t false = true ∧ ∀ k < g.H, ∃ n : Nat, (subL g t c)[k]? = some (n : Int) ∧ n < g.S ∧ inn.getD n false = true) := Lib.hid (fun t ht h => right_in ok hr ht h)
  have HCT := Lib.hid hC
  have HHS := Lib.hid hH
  have HHL := Lib.hid hH.1
  have HBD := Lib.hid hb
  have HST := Lib.hid (And.intro hS hi)
  have hs400 := ok.s1
  clear hin ok hI hC hR hr hS hi hH hb
  go_enter Try.func53, Try.ntmps53
  have hmk := run_makeInts hn (by omega)
  go_wp2
  obtain ⟨bx, hbx⟩ : ∃ z, z = w.heap.size := ⟨_, rfl⟩
  obtain ⟨lb, hlb⟩ : ∃ z, z = bx + 1 := ⟨_, rfl⟩
  obtain ⟨w1, hw1⟩ : ∃ z, z = (w.alloc (.cells #[.int .i64 (g.S : Int), .int .i64 (g.C : Int), .int .i64 (g.H : Int), .slice nA nn nc, .slice (some ⟨gb, go, none⟩) g.S gc, .slice (some ⟨ib, io, none⟩) g.S ic, .slice (some ⟨cb, co, none⟩) g.S cc, .slice (some ⟨rb, ro, none⟩) g.S rc] 92)).alloc (.cells (intsA (List.replicate hn 0)) 3) := ⟨_, rfl⟩
  have hi1 : Below w.heap.size w w1 := by rw [hw1]; (repeat' (first | (with_reducible exact Below.refl _ _) | (with_reducible assumption) | (with_reducible refine below_drewN ?_ _) | (with_reducible refine below_after (by assumption) ?_ ?_) | (with_reducible refine Below.drew ?_) | (with_reducible refine Below.alloc ?_ ?_ _) | (with_reducible refine Below.setCell ?_ ?_ _) | omega | (simp; omega) | (simp; done)))
  have HBX : Hid (Blk w1 bx 92 #[.int .i64 (g.S : Int), .int .i64 (g.C : Int), .int .i64 (g.H : Int), .slice nA nn nc, .slice (some ⟨gb, go, none⟩) g.S gc, .slice (some ⟨ib, io, none⟩) g.S ic, .slice (some ⟨cb, co, none⟩) g.S cc, .slice (some ⟨rb, ro, none⟩) g.S rc]) := Lib.hid (by rw [hw1, hbx]; exact Blk.alloc (heap_alloc_new w _) _)
  have HLB : Hid (Blk w1 lb 3 (intsA (List.replicate hn 0))) := Lib.hid (by
    have e2 := heap_alloc_new (w.alloc (.cells #[.int .i64 (g.S : Int), .int .i64 (g.C : Int), .int .i64 (g.H : Int), .slice nA nn nc, .slice (some ⟨gb, go, none⟩) g.S gc, .slice (some ⟨ib, io, none⟩) g.S ic, .slice (some ⟨cb, co, none⟩) g.S cc, .slice (some ⟨rb, ro, none⟩) g.S rc] 92)) (.cells (intsA (List.replicate hn 0)) 3)
    simp only [World.size_alloc] at e2
    rw [hw1, hlb, hbx]
    exact e2)
  have HZ : Hid (w.heap.size ≤ lb ∧ bx ≠ lb) := Lib.hid (by omega)
  rw [← hw1, ← hbx, ← hlb]
  have HL := Lib.hid hi1
  clear hw1 hbx hlb hi1 hmk
  go_loopw [1, 15] (fun v i wr => ∃ k : Nat, k ≤ hn ∧ i = .int .i64 k ∧ v = .int .i64 ((lsF g ctl s (hs.take k) : Nat) : Int) ∧ Hid (Below w.heap.size w wr ∧ Blk wr bx 92 #[.int .i64 (g.S : Int), .int .i64 (g.C : Int), .int .i64 (g.H : Int), .slice nA nn nc, .slice (some ⟨gb, go, none⟩) g.S gc, .slice (some ⟨ib, io, none⟩) g.S ic, .slice (some ⟨cb, co, none⟩) g.S cc, .slice (some ⟨rb, ro, none⟩) g.S rc] ∧ Blk wr lb 3 (intsA (plF g ctl s (hs.take k) ++ List.replicate (hn - k) 0)) ∧ lsF g ctl s (hs.take k) < g.S ∧ inn.getD (lsF g ctl s (hs.take k)) false = true)) (fun _ i _ => hn - (intOf i).toNat)
  case atStart => exact ⟨0, by omega, rfl, rfl, Lib.hid ⟨HL.out, HBX.out, by simpa [plF] using HLB.out, HST.out.1, HST.out.2⟩⟩
  case round =>
    obtain ⟨k, hk, rfl, rfl, HW⟩ := hrel
    by_cases hlt : k < hn
    · obtain ⟨hb9, ho9, hx, e1, hh9, hhx, hhc⟩ := (HHS.out.next HW.out.1).at_ hlt
      subst e1
      have ch := cellI hhc
      have zh := block_of_cell ch
      dsimp only at zh
      have hbx := HBD.out hx (List.mem_of_getElem? hhx)
      obtain ⟨h, rfl⟩ : ∃ h : Nat, hx = (h : Int) := ⟨hx.toNat, by omega⟩
      obtain ⟨t, ht⟩ : ∃ z, z = lsF g ctl s (hs.take k) := ⟨_, rfl⟩
      have HT := Lib.hid ht
      rw [← ht] at HW ⊢
      obtain ⟨c, hcc, hcC, _, hall⟩ := HRT.out t HW.out.2.2.2.1 HW.out.2.2.2.2
      obtain ⟨n, hnx, hnS, hnI⟩ := hall h (by omega)
      have HNX : Hid ((subL g t c)[h]? = some (n : Int)) := Lib.hid hnx
      have HNN := Lib.hid (And.intro hnS hnI)
      have HHB : Hid (h < g.H) := Lib.hid (by omega)
      have hnxF : nxF g ctl t (h : Int) = (n : Int) := by
        unfold nxF
        rw [hcc, Int.toNat_natCast, Int.toNat_natCast, List.getD_eq_getElem?_getD, hnx]
        rfl
      have htk : hs.take (k + 1) = hs.take k ++ [(h : Int)] := by rw [List.take_add_one, hhx]; rfl
      have HPL : Hid (plF g ctl s (hs.take (k + 1)) = plF g ctl s (hs.take k) ++ [(n : Int)] ∧ lsF g ctl s (hs.take (k + 1)) = n ∧ (plF g ctl s (hs.take k)).length = k) := Lib.hid ⟨by rw [htk, plF_snoc, ← ht, hnxF], by rw [htk, lsF_snoc, ← ht, hnxF, Int.toNat_natCast], by rw [plF_len, List.length_take, HHL.out]; omega⟩
      obtain ⟨b3, o3, y3, e3, hb3, hx3, hc3⟩ := (HCT.out.next HW.out.1).at_ HW.out.2.2.2.1
      obtain ⟨rfl, rfl⟩ : b3 = cb ∧ o3 = co := by simpa [eq_comm] using e3
      have hy3 : y3 = (c : Int) := by rw [← hcc, List.getD_eq_getElem?_getD, hx3]; rfl
      subst hy3
      have HCC : Hid (b3 < wr.heap.size ∧ wr.cell? ⟨b3, o3 + t, none⟩ = some (.int .i64 (c : Int))) := Lib.hid ⟨hb3, cellI hc3⟩
      have KA := Lib.hid (fun W (h : Below wr.heap.size wr W) => KA0.out t c W (below3 HW.out.1 h (Nat.le_refl _)) HW.out.2.2.2.1 hcC)
      have HBW := Lib.hid HW.out.2.1
      have hk0 : (0 : Int) ≤ (k : Int) := by omega
      have hkn : (k : Int) < (hn : Int) := by omega
      have j1 : (0 : Int) ≤ (t : Int) := by omega
      have j2 : (t : Int) < (g.S : Int) := by have := HW.out.2.2.2.1; omega
      clear hhx hhc hh9 hbx ht hcc hcC hall hnx hnS hnI hnxF htk e3 hb3 hx3 hc3
      go_wp2
      clear ch zh
      refine wp_region_free10 13 (by kernel_rfl) [some 20, some 21, some 22, some 23, some 24, some 25, some 26, some 27, some 28, some 29, some 30, some 31, some 32, some 1] [[], [0], [], [], [3], [4], [], [5, 6], [7], [1, 2, 8], [], [9, 10], [11], [12, 9, 0, 1, 2, 3, 4, 5, 6, 7, 8, 9, 10, 11, 12]] [(3, .pointer (some ⟨bx, 0, none⟩)), (1, .int .i64 (t : Int)), (9, .int .i64 (h : Int))] (fun W _ => Below wr.heap.size wr W) (plPhi wr g bx b3 o3 cc t c h n (.agg #[.int .i64 (g.S : Int), .int .i64 (g.C : Int), .int .i64 (g.H : Int), .slice nA nn nc, .slice (some ⟨gb, go, none⟩) g.S gc]) (subL g t c)) (fun _ _ _ => True) (by kernel_rfl) (by kernel_rfl) rfl (by kernel_rfl) ?_ ?_ ⟨fun _ => 0, (Below.refl _ _).drew, fun i _ => trivial⟩ ?_ ?_
      · intro z hz
        simp only [List.mem_cons, List.mem_nil_iff, or_false] at hz
        rcases hz with rfl | rfl | rfl
        all_goals exact ⟨by kernel_rfl, rfl⟩
      · intro i v W γ hi h
        rcases i with _ | _ | _ | _ | _ | _ | _ | _ | _ | _ | _ | _ | _ | _ | i
        all_goals first | exact h | (simp at hi)
      · refine ⟨?_, ?_, ?_, ?_, ?_, ?_, ?_, ?_, ?_, ?_, ?_, ?_, ?_, ?_, trivial⟩
        all_goals
          intro a9 W γ ev hcc hff hfx hR hψ hpre
          simp only [List.mem_cons, List.mem_nil_iff, or_false, forall_eq, forall_eq_or_imp] at hfx
          obtain ⟨f0, f1, f2⟩ := hfx
          have HR := Lib.hid hR
          clear hR
        · refine ⟨fun hg K hK => ?_, trivial⟩
          clear hg
          clear hpre hψ
          go_simp
          exact hK _ _ γ HR.out (fun _ _ _ _ h => h) (fun _ _ _ h => h) rfl
        · refine ⟨fun hg K hK => ?_, trivial⟩
          clear hg
          have q0 : ev (.tmp 20) = _ := hpre 0 (by decide)
          have hbk := HBW.out.below (show Below wr.heap.size wr W from HR.out) HBW.out.lt
          have hzg := hbk.lt
          have e0 := hbk.cell 0
          have e1 := hbk.cell 1
          have e2 := hbk.cell 2
          have e3 := hbk.cell 3
          have e4 := hbk.cell 4
          simp only [List.getElem?_toArray, List.getElem?_cons_zero, List.getElem?_cons_succ] at e0 e1 e2 e3 e4
          clear hbk
          clear hpre hψ
          go_simp
          exact hK _ _ γ HR.out (fun _ _ _ _ h => h) (fun _ _ _ h => h) rfl
        · refine ⟨fun hg K hK => ?_, trivial⟩
          clear hg
          clear hpre hψ
          go_simp
          exact hK _ _ γ HR.out (fun _ _ _ _ h => h) (fun _ _ _ h => h) rfl
        · refine ⟨fun hg K hK => ?_, trivial⟩
          clear hg
          clear hpre hψ
          go_simp
          exact hK _ _ γ HR.out (fun _ _ _ _ h => h) (fun _ _ _ h => h) rfl
        · refine ⟨fun hg K hK => ?_, trivial⟩
          clear hg
          have q0 : ev (.tmp 23) = _ := hpre 3 (by decide)
          clear hpre hψ
          go_simp
          exact hK _ _ γ HR.out (fun _ _ _ _ h => h) (fun _ _ _ h => h) rfl
        · refine ⟨fun hg K hK => ?_, trivial⟩
          clear hg
          have q0 : ev (.tmp 24) = _ := hpre 4 (by decide)
          have hbk := HBW.out.below (show Below wr.heap.size wr W from HR.out) HBW.out.lt
          have hzg := hbk.lt
          have e6 := hbk.cell 6
          simp only [List.getElem?_toArray, List.getElem?_cons_zero, List.getElem?_cons_succ] at e6
          clear hbk
          clear hpre hψ
          go_simp
          exact hK _ _ γ HR.out (fun _ _ _ _ h => h) (fun _ _ _ h => h) rfl
        · refine ⟨fun hg K hK => ?_, trivial⟩
          clear hg
          clear hpre hψ
          go_simp
          exact hK _ _ γ HR.out (fun _ _ _ _ h => h) (fun _ _ _ h => h) rfl
        · refine ⟨fun hg K hK => ?_, trivial⟩
          clear hg
          have q0 : ev (.tmp 25) = _ := hpre 5 (by decide)
          have q1 : ev (.tmp 26) = _ := hpre 6 (by decide)
          clear hpre hψ
          go_simp
          exact hK _ _ γ HR.out (fun _ _ _ _ h => h) (fun _ _ _ h => h) rfl
        · refine ⟨fun hg K hK => ?_, trivial⟩
          clear hg
          have q0 : ev (.tmp 27) = _ := hpre 7 (by decide)
          have hca := ((show Below wr.heap.size wr W from HR.out).cell (p := ⟨b3, o3 + t, none⟩) HCC.out.1).trans HCC.out.2
          have hza : b3 < W.heap.size := block_of_cell hca
          clear hpre hψ
          go_simp
          exact hK _ _ γ HR.out (fun _ _ _ _ h => h) (fun _ _ _ h => h) rfl
        · refine ⟨fun hg K hK => ?_, trivial⟩
          clear hg
          have q0 : ev (.tmp 21) = _ := hpre 1 (by decide)
          have q1 : ev (.tmp 22) = _ := hpre 2 (by decide)
          have q2 : ev (.tmp 28) = _ := hpre 8 (by decide)
          have C := Lib.hid (KA.out W (show Below wr.heap.size wr W from HR.out))
          have HRW9 : Hid (Below wr.heap.size wr W) := HR
          clear hpre hψ
          go_simp
          refine C.out.mono ?_
          rintro e w5 ⟨A9, cp, rfl, hB5, hrd⟩
          exact hK _ w5 γ (below3 HRW9.out hB5 (Nat.le_refl _)) (fun j u _ _ h => plPhi_next hB5 h) (fun _ _ _ h => h) ⟨A9, cp, rfl, hrd.next hB5⟩
        · refine ⟨fun hg K hK => ?_, trivial⟩
          clear hg
          clear hpre hψ
          go_simp
          exact hK _ _ γ HR.out (fun _ _ _ _ h => h) (fun _ _ _ h => h) rfl
        · refine ⟨fun hg K hK => ?_, trivial⟩
          clear hg
          have q0 : ev (.tmp 30) = _ := hpre 10 (by decide)
          obtain ⟨A9, cp, q9, hrd⟩ := hpre 9 (by decide)
          replace q9 : ev (.tmp 29) = _ := q9
          obtain ⟨lb, lo, x9, e9, hlb, hx9, hc9⟩ := hrd.at_ HHB.out
          have hnx : x9 = n := by
            have h := HNX.out
            rw [hx9] at h
            exact Option.some.inj h
          subst hnx
          have HC9 := Lib.hid (And.intro hlb (cellI hc9))
          subst e9
          have i1 := HHB.out
          have i2 : (0 : Int) ≤ (h : Int) := by omega
          have i3 : (h : Int) < (g.H : Int) := by omega
          clear hpre hψ hrd hlb hx9 hc9 i1
          go_simp
          exact hK _ _ γ HR.out (fun _ _ _ _ h => h) (fun _ _ _ h => h) ⟨lb, lo, rfl, HC9.out⟩
        · refine ⟨fun hg K hK => ?_, trivial⟩
          clear hg
          obtain ⟨lb, lo, q9, hlb, hc9⟩ := hpre 11 (by decide)
          replace q9 : ev (.tmp 31) = _ := q9
          clear hpre hψ
          go_simp
          exact hK _ _ γ HR.out (fun _ _ _ _ h => h) (fun _ _ _ h => h) rfl
        · refine ⟨fun hg K hK => ?_, trivial⟩
          clear hg
          have q0 : ev (.tmp 32) = _ := hpre 12 (by decide)
          clear hpre hψ
          go_simp
          exact hK _ _ γ HR.out (fun _ _ _ _ h => h) (fun _ _ _ h => h) rfl
      · intro vs wy γ hvl hR hφ
        have q13 := hφ 13 (by decide)
        have HR := Lib.hid hR
        clear hφ hR
        match vs, hvl with
        | [y0, y1, y2, y3, y4, y5, y6, y7, y8, y9, y10, y11, y12, y13], _ =>
        simp only [List.getD_cons_zero, List.getD_cons_succ] at q13
        obtain rfl : y13 = _ := q13
        have HB9 : Hid (Below wr.heap.size wr wy) := Lib.hid HR.out
        have hlk := HW.out.2.2.1.below HB9.out HW.out.2.2.1.lt
        have zl := hlk.lt
        have fl := hlk.frozen
        have cl : wy.cell? ⟨lb, k, none⟩ = some (.int .i64 0) := hlk.intAt (by
          have h1 := fill_at (plF g ctl s (hs.take k)) (hn - (k + 1))
          rw [HPL.out.2.2, show hn - (k + 1) + 1 = hn - k by omega] at h1
          exact h1)
        have HLK := Lib.hid hlk
        clear hlk HR
        simp [putAll]
        go_wp2
        go_roundw
        case rel => exact ⟨k + 1, by omega, by go_num, by rw [HPL.out.2.1], Lib.hid ⟨(below3 HW.out.1 HB9.out (Nat.le_refl _)).setCell HZ.out.1 _, (HW.out.2.1.below HB9.out HW.out.2.1.lt).far HZ.out.2 _, by
          have h := HLK.out.set_ k (.int .i64 (n : Int))
          rw [intsA_set] at h
          have e2 : (plF g ctl s (hs.take k) ++ List.replicate (hn - k) 0).set k (n : Int) = plF g ctl s (hs.take (k + 1)) ++ List.replicate (hn - (k + 1)) 0 := by
            rw [HPL.out.1, show hn - k = (hn - (k + 1)) + 1 by omega]
            have := set_fill (plF g ctl s (hs.take k)) (hn - (k + 1)) (n : Int)
            rw [HPL.out.2.2] at this
            exact this
          rw [e2] at h
          exact h, by rw [HPL.out.2.1]; exact HNN.out⟩⟩
        case measure => simp [intOf]; omega
    · obtain rfl : hn = k := by omega
      have HFIN : Hid (Blk wr lb 3 (intsA (plF g ctl s hs)) ∧ Below w.heap.size w wr) := Lib.hid ⟨by
        have h := HW.out.2.2.1
        rw [List.take_of_length_le (by rw [HHL.out]; exact Nat.le_refl _), Nat.sub_self] at h
        simpa using h, HW.out.1⟩
      go_wp2
      go_ret
      exact ⟨lb, rfl, HFIN.out⟩
set_option maxRecDepth 100000 in
theorem shocks_all (nA gA : Option Addr) (nn nc gn gc : Nat) (g : Gm) (hA : Option Addr) (hn hc : Nat) (hs : List Int) (w : World) (ok : GmOk g) (hH : Rd w w.heap.size 1 encI hA hn hs) (hb : ∀ x ∈ hs, 0 ≤ x ∧ x < g.H) (hn9 : hn ≤ 1000000) :
    Calls Try.prog 51 #[.slice hA hn hc, .func (.func 52) #[.agg #[.int .i64 (g.S : Int), .int .i64 (g.C : Int), .int .i64 (g.H : Int), .slice nA nn nc, .slice gA gn gc]] #[]] w fun e w' => e = .returned (.bool true) ∧ Below w.heap.size w w' := by
  have hh := ok.h1
  have h := all_any hA hn hc hs 52 (.agg #[.int .i64 (g.S : Int), .int .i64 (g.C : Int), .int .i64 (g.H : Int), .slice nA nn nc, .slice gA gn gc]) (fun x => inB 0 x ((g.H : Int) - 1)) w (enters_of Try.func52 (by kernel_rfl) rfl) hH (by omega) (fun x hx W hW => hasShock_any g.S g.C g.H x (.slice nA nn nc) (.slice gA gn gc) W (by omega) (by omega))
  rw [show hs.all (fun x => inB 0 x ((g.H : Int) - 1)) = true from List.all_eq_true.2 (fun x hx => inB_yes (by have := hb x hx; omega))] at h
  exact h
set_option maxRecDepth 100000 in
theorem controls_all (nA gA : Option Addr) (nn nc gn gc : Nat) (g : Gm) (hA : Option Addr) (hn hc : Nat) (hs : List Int) (w : World) (ok : GmOk g) (hH : Rd w w.heap.size 1 encI hA hn hs) (hb : ∀ x ∈ hs, 0 ≤ x ∧ x < g.C) (hn9 : hn ≤ 1000000) :
    Calls Try.prog 51 #[.slice hA hn hc, .func (.func 45) #[.agg #[.int .i64 (g.S : Int), .int .i64 (g.C : Int), .int .i64 (g.H : Int), .slice nA nn nc, .slice gA gn gc]] #[]] w fun e w' => e = .returned (.bool true) ∧ Below w.heap.size w w' := by
  have hh := ok.c1
  have h := all_any hA hn hc hs 45 (.agg #[.int .i64 (g.S : Int), .int .i64 (g.C : Int), .int .i64 (g.H : Int), .slice nA nn nc, .slice gA gn gc]) (fun x => inB 0 x ((g.C : Int) - 1)) w (enters_of Try.func45 (by kernel_rfl) rfl) hH (by omega) (fun x hx W hW => hasControl_any g.S g.C g.H x (.slice nA nn nc) (.slice gA gn gc) W (by omega) (by omega))
  rw [show hs.all (fun x => inB 0 x ((g.C : Int) - 1)) = true from List.all_eq_true.2 (fun x hx => inB_yes (by have := hb x hx; omega))] at h
  exact h
set_option maxRecDepth 100000 in
set_option maxHeartbeats 4000000 in
theorem Play_ok (nA : Option Addr) (nn nc gb go gc ib io ic cb co cc rb ro rc : Nat) (g : Gm) (inn : List Bool) (ctl rnk : List Int) (s hn hc : Nat) (hA : Option Addr) (hs : List Int) (w : World) (hin : GmIn w w.heap.size ⟨nA, some ⟨gb, go, none⟩, nn, nc, g.S, gc⟩ g) (ok : GmOk g) (hI : Rd w w.heap.size 1 encB (some ⟨ib, io, none⟩) g.S inn) (hC : Rd w w.heap.size 1 encI (some ⟨cb, co, none⟩) g.S ctl) (hR : Rd w w.heap.size 1 encI (some ⟨rb, ro, none⟩) g.S rnk) (hr : rightB g inn ctl rnk = true) (hS : s < g.S) (hi : inn.getD s false = true) (hH : Rd w w.heap.size 1 encI hA hn hs) (hb : ∀ x ∈ hs, 0 ≤ x ∧ x < g.H) (hn9 : hn ≤ 10000) :
    Calls Try.prog 21 #[.agg #[.int .i64 (g.S : Int), .int .i64 (g.C : Int), .int .i64 (g.H : Int), .slice nA nn nc, .slice (some ⟨gb, go, none⟩) g.S gc], .agg #[.slice (some ⟨ib, io, none⟩) g.S ic, .slice (some ⟨cb, co, none⟩) g.S cc, .slice (some ⟨rb, ro, none⟩) g.S rc], .int .i64 (s : Int), .slice hA hn hc] w fun e w' => ∃ lb, e = .returned (.tuple #[.slice (some ⟨lb, 0, none⟩) hn hn, .int .i64 0]) ∧ Blk w' lb 3 (intsA (plF g ctl s hs)) ∧ Below w.heap.size w w' := by
  have KV0 := fun W (h : Below w.heap.size w W) => Verify_any nA nn nc gb go gc ib io ic cb co cc rb ro rc g inn ctl rnk W (hin.next' h) ok (hI.next h) (hC.next h) (hR.next h)
  rw [hr] at KV0
  have KV := Lib.hid KV0
  have hs4 := ok.s1
  have KH0 := fun W => hasState_any g.S g.C g.H (s : Int) (.slice nA nn nc) (.slice (some ⟨gb, go, none⟩) g.S gc) W (by omega) (by omega)
  rw [inB_yes (show (0 : Int) ≤ (s : Int) ∧ (s : Int) ≤ (g.S : Int) - 1 by omega)] at KH0
  have KH := Lib.hid KH0
  have KS := Lib.hid (fun W (h : Below w.heap.size w W) => shocks_all nA (some ⟨gb, go, none⟩) nn nc g.S gc g hA hn hc hs W ok (hH.next h) hb (by omega))
  have KP := Lib.hid (fun W (h : Below w.heap.size w W) => play_any nA nn nc gb go gc ib io ic cb co cc rb ro rc g inn ctl rnk s hn hc hA hs W (hin.next' h) ok (hI.next h) (hC.next h) (hR.next h) hr hS hi (hH.next h) hb hn9)
  obtain ⟨b3, o3, y3, e3, hb3, hx3, hc3⟩ := hI.at_ hS
  obtain ⟨rfl, rfl⟩ : b3 = ib ∧ o3 = io := by simpa [eq_comm] using e3
  have hy3 : y3 = true := by rw [← hi, List.getD_eq_getElem?_getD, hx3]; rfl
  subst hy3
  have HCI : Hid (b3 < w.heap.size ∧ w.cell? ⟨b3, o3 + s, none⟩ = some (.bool true)) := Lib.hid ⟨hb3, cellB hc3⟩
  have j1 : (0 : Int) ≤ (s : Int) := by omega
  have j2 : (s : Int) < (g.S : Int) := by omega
  have d9 : ¬ ((10000 : Int) < (hn : Int)) := by omega
  have d8 : decide ((10000 : Int) < (hn : Int)) = false := decide_eq_false d9
  clear KV0 KH0 hin ok hI hC hR hr hS hi hH hb e3 hb3 hx3 hc3
  go_enter Try.func21, Try.ntmps21
  go_wp2_with fail
  obtain ⟨bx, hbx⟩ : ∃ z, z = w.heap.size := ⟨_, rfl⟩
  obtain ⟨by', hby⟩ : ∃ z, z = bx + 1 := ⟨_, rfl⟩
  obtain ⟨w1, hw1⟩ : ∃ z, z = (w.alloc (.cells #[.int .i64 (g.S : Int), .int .i64 (g.C : Int), .int .i64 (g.H : Int), .slice nA nn nc, .slice (some ⟨gb, go, none⟩) g.S gc] 25)).alloc (.cells #[.slice (some ⟨b3, o3, none⟩) g.S ic, .slice (some ⟨cb, co, none⟩) g.S cc, .slice (some ⟨rb, ro, none⟩) g.S rc] 27) := ⟨_, rfl⟩
  have hi1 : Below w.heap.size w w1 := by rw [hw1]; (repeat' (first | (with_reducible exact Below.refl _ _) | (with_reducible assumption) | (with_reducible refine below_drewN ?_ _) | (with_reducible refine below_after (by assumption) ?_ ?_) | (with_reducible refine Below.drew ?_) | (with_reducible refine Below.alloc ?_ ?_ _) | (with_reducible refine Below.setCell ?_ ?_ _) | omega | (simp; omega) | (simp; done)))
  have hb1 : Blk w1 bx 25 #[.int .i64 (g.S : Int), .int .i64 (g.C : Int), .int .i64 (g.H : Int), .slice nA nn nc, .slice (some ⟨gb, go, none⟩) g.S gc] := by rw [hw1, hbx]; exact Blk.alloc (heap_alloc_new w _) _
  have hb2 : Blk w1 by' 27 #[.slice (some ⟨b3, o3, none⟩) g.S ic, .slice (some ⟨cb, co, none⟩) g.S cc, .slice (some ⟨rb, ro, none⟩) g.S rc] := by
    have e2 := heap_alloc_new (w.alloc (.cells #[.int .i64 (g.S : Int), .int .i64 (g.C : Int), .int .i64 (g.H : Int), .slice nA nn nc, .slice (some ⟨gb, go, none⟩) g.S gc] 25)) (.cells #[.slice (some ⟨b3, o3, none⟩) g.S ic, .slice (some ⟨cb, co, none⟩) g.S cc, .slice (some ⟨rb, ro, none⟩) g.S rc] 27)
    simp only [World.size_alloc] at e2
    rw [hw1, hby, hbx]
    exact e2
  rw [← hw1, ← hbx, ← hby]
  clear hw1 hbx hby
  refine (KV.out _ hi1).mono ?_
  rintro e w2 ⟨rfl, hB2⟩
  have HF2 := Lib.hid (And.intro (below3 hi1 hB2 (Nat.le_refl _)) (And.intro (hb1.below hB2 hb1.lt) (hb2.below hB2 hb2.lt)))
  clear hB2 hi1 hb1 hb2 KV
  simp only [show verifyN true = 0 from rfl]
  have hbk := HF2.out.2.1
  have e0 := hbk.cell 0
  have e1 := hbk.cell 1
  have e2 := hbk.cell 2
  have e3 := hbk.cell 3
  have e4 := hbk.cell 4
  have ze := hbk.lt
  simp only [List.getElem?_toArray, List.getElem?_cons_zero, List.getElem?_cons_succ] at e0 e1 e2 e3 e4
  clear hbk
  go_wp2_with fail
  refine (KH.out _).mono ?_
  rintro e w3 ⟨rfl, hB3⟩
  have HF3 := Lib.hid (And.intro (below3 HF2.out.1 hB3 (Nat.le_refl _)) (And.intro (HF2.out.2.1.below hB3 HF2.out.2.1.lt) (HF2.out.2.2.below hB3 HF2.out.2.2.lt)))
  clear hB3 HF2 KH e0 e1 e2 e3 e4 ze
  have hbk := HF3.out.2.1
  have e0 := hbk.cell 0
  have e1 := hbk.cell 1
  have e2 := hbk.cell 2
  have e3 := hbk.cell 3
  have e4 := hbk.cell 4
  have ze := hbk.lt
  simp only [List.getElem?_toArray, List.getElem?_cons_zero, List.getElem?_cons_succ] at e0 e1 e2 e3 e4
  clear hbk
  go_wp2_with fail
  refine (KS.out _ HF3.out.1).mono ?_
  rintro e w4 ⟨rfl, hB4⟩
  have HF4 := Lib.hid (And.intro (below3 HF3.out.1 hB4 (Nat.le_refl _)) (And.intro (HF3.out.2.1.below hB4 HF3.out.2.1.lt) (HF3.out.2.2.below hB4 HF3.out.2.2.lt)))
  clear hB4 HF3 KS e0 e1 e2 e3 e4 ze
  have hbk := HF4.out.2.1
  have e0 := hbk.cell 0
  have e1 := hbk.cell 1
  have e2 := hbk.cell 2
  have e3 := hbk.cell 3
  have e4 := hbk.cell 4
  have ze := hbk.lt
  simp only [List.getElem?_toArray, List.getElem?_cons_zero, List.getElem?_cons_succ] at e0 e1 e2 e3 e4
  clear hbk
  have hbk := HF4.out.2.2
  have o0 := hbk.cell 0
  have o1 := hbk.cell 1
  have o2 := hbk.cell 2
  have zo := hbk.lt
  simp only [List.getElem?_toArray, List.getElem?_cons_zero, List.getElem?_cons_succ] at o0 o1 o2
  clear hbk
  have ci : w4.cell? ⟨b3, o3 + s, none⟩ = some (.bool true) := (HF4.out.1.cell (p := ⟨b3, o3 + s, none⟩) HCI.out.1).trans HCI.out.2
  have zi := block_of_cell ci
  dsimp only at zi
  go_wp2_with fail
  refine (KP.out _ HF4.out.1).mono ?_
  rintro e w5 ⟨lb, rfl, hlb, hB5⟩
  have HF5 := Lib.hid (And.intro hlb (below3 HF4.out.1 hB5 (Nat.le_refl _)))
  clear hB5 hlb HF4 KP e0 e1 e2 e3 e4 ze o0 o1 o2 zo ci zi
  go_wp2
  refine bodyPost_ret (v := .tuple #[.slice (some ⟨lb, 0, none⟩) hn hn, .int .i64 0]) ?_ rfl ?_
  · simp [results, Try.results21, go_sem]
  · exact ⟨lb, rfl, HF5.out⟩
/-- Whether a state is a disaster, or not good. -/
def overB (g : Gm) (x : Int) : Bool := x == -1 || !g.good.getD x.toNat false
theorem isOver_any (nA gA : Option Addr) (nn nc gc : Nat) (g : Gm) (x : Int) (w : World) (hin : GmIn w w.heap.size ⟨nA, gA, nn, nc, g.S, gc⟩ g) (hx : -1 ≤ x ∧ x < g.S) :
    Calls Try.prog 76 #[.agg #[.int .i64 (g.S : Int), .int .i64 (g.C : Int), .int .i64 (g.H : Int), .slice nA nn nc, .slice gA g.S gc], .int .i64 x] w fun e w' => e = .returned (.bool (overB g x)) ∧ Below w.heap.size w w' := by
  by_cases h1 : x = -1
  · have h2 : overB g x = true := by rw [h1]; rfl
    rw [h2]
    subst h1
    clear hin hx h2
    go_enter Try.func76, Try.ntmps76
    go_wp2
    go_ret
    exact ⟨rfl, by (repeat' (first | (with_reducible exact Below.refl _ _) | (with_reducible assumption) | (with_reducible refine below_drewN ?_ _) | (with_reducible refine below_after (by assumption) ?_ ?_) | (with_reducible refine Below.drew ?_) | (with_reducible refine Below.alloc ?_ ?_ _) | (with_reducible refine Below.setCell ?_ ?_ _) | omega | (simp; omega) | (simp; done)))⟩
  · obtain ⟨k, rfl⟩ : ∃ k : Nat, x = (k : Int) := ⟨x.toNat, by omega⟩
    obtain ⟨b, off, y, e1, hb, hy, hcy⟩ := hin.good.at_ (show k < g.S by omega)
    have e1 : gA = some ⟨b, off, none⟩ := e1
    have h2 : overB g (k : Int) = !y := by
      unfold overB
      rw [beq_eq_false_iff_ne.2 h1, List.getD_eq_getElem?_getD, Int.toNat_natCast, hy]
      rfl
    rw [h2]
    have c0 := cellB hcy
    have q1 : ((k : Int) == -1) = false := beq_eq_false_iff_ne.2 h1
    have q2 : (0 : Int) ≤ (k : Int) := by omega
    have q3 : (k : Int) < (g.S : Int) := by omega
    have q4 := block_of_cell c0
    dsimp only at q4
    subst e1
    clear hin hx hy hcy h1 h2
    go_enter Try.func76, Try.ntmps76
    go_wp2
    go_ret
    exact ⟨by cases y <;> rfl, by (repeat' (first | (with_reducible exact Below.refl _ _) | (with_reducible assumption) | (with_reducible refine below_drewN ?_ _) | (with_reducible refine below_after (by assumption) ?_ ?_) | (with_reducible refine Below.drew ?_) | (with_reducible refine Below.alloc ?_ ?_ _) | (with_reducible refine Below.setCell ?_ ?_ _) | omega | (simp; omega) | (simp; done)))⟩
end Go.Proofs.Ytalngalikblgkaa
