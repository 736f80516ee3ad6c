/- meter: SameLists of the example. -/
import Derived.Test.YtcecbohaajocfaaMtE

set_option linter.unusedSimpArgs false
set_option linter.unusedVariables false
namespace Go.Proofs.Ytcecbohaajocfaa
open Go.RowKit

set_option maxRecDepth 100000 in
theorem SameInts_yes (A A' : Option Addr) (n c c' : Nat) (l : List Int) (w : World) (hl : Rd w w.heap.size 1 encI A n l) (hm : Rd w w.heap.size 1 encI A' n l) (hn : n ≤ 1000000) :
    Calls Try.prog 97 #[.slice A n c, .slice A' n c'] w fun e w' => e = .returned (.bool true) ∧ Below w.heap.size w w' := by
  have HL := Lib.hid hl
  have HM := Lib.hid hm
  clear hl hm
  go_enter Try.func97, Try.ntmps97
  go_wp2
  go_loopw [5] (fun i wr => ∃ k : Nat, k ≤ n ∧ i = .int .i64 k ∧ Below w.heap.size w wr) (fun i _ => n - (intOf i).toNat)
  case atStart => exact ⟨0, by omega, rfl, Below.refl _ _⟩
  case round =>
    obtain ⟨k, hk, rfl, hB⟩ := hrel
    have hz' := hB.size
    by_cases hlt : k < n
    · obtain ⟨b, off, x, rfl, hb, hx, hcx⟩ := (HL.out.below hB).at_ hlt
      obtain ⟨b', off', y, rfl, hb', hy, hcy⟩ := (HM.out.below hB).at_ hlt
      obtain rfl : x = y := by rw [hx] at hy; exact Option.some.inj hy
      have c0 := cellI hcx
      have c1 := cellI hcy
      have hk0 : (0 : Int) ≤ (k : Int) := by omega
      have hkn : (k : Int) < (n : Int) := by omega
      have hkw : IntKind.i64.wrap (k : Int) = (k : Int) := IntWalk.i64_in _ (by omega)
      clear hx hy hcx hcy
      go_wp2
      go_quiet (fail)
      go_wp2
      go_roundw
      case rel => exact ⟨k + 1, by omega, by go_num, by (repeat' (first | (with_reducible exact Below.refl _ _) | (with_reducible assumption) | (with_reducible refine below_drewN ?_ _) | (with_reducible refine below_after (by assumption) ?_ ?_) | (with_reducible refine Below.drew ?_) | (with_reducible refine Below.alloc ?_ ?_ _) | (with_reducible refine Below.setCell ?_ ?_ _) | omega | (simp; omega) | (simp; done)))⟩
      case measure => simp [intOf]; omega
    · obtain rfl : n = k := by omega
      go_wp2
      go_ret
      exact ⟨rfl, hB⟩
theorem SameList_yes (A A' : Option Addr) (n c c' : Nat) (l : List Int) (w : World) (hl : Rd w w.heap.size 1 encI A n l) (hm : Rd w w.heap.size 1 encI A' n l) (hn : n ≤ 1000000) :
    Calls Try.prog 64 #[.slice A n c, .slice A' n c'] w fun e w' => e = .returned (.bool true) ∧ Below w.heap.size w w' := by
  have K := Lib.hid (SameInts_yes A A' n c c' l w hl hm hn)
  clear hl hm hn
  go_enter Try.func64, Try.ntmps64
  go_wp2_with fail
  refine K.out.mono ?_
  rintro e w2 ⟨rfl, hB⟩
  have HB := Lib.hid hB
  clear hB
  go_wp2
  go_ret
  exact ⟨rfl, HB.out⟩
def slPhi (a b n ca cb k ln ck dk : Nat) (pk qk : Option Addr) : Nat → Value → World → (Nat → Nat) → Prop
  | 0, v, _, _ => v = .slice (some ⟨a, 0, none⟩) n ca
  | 1, v, _, _ => v = .int .i64 (k : Int)
  | 2, v, _, _ => v = .pointer (some ⟨a, k, none⟩)
  | 3, v, _, _ => v = .slice pk ln ck
  | 4, v, _, _ => v = .slice (some ⟨b, 0, none⟩) n cb
  | 5, v, _, _ => v = .int .i64 (k : Int)
  | 6, v, _, _ => v = .pointer (some ⟨b, k, none⟩)
  | 7, v, _, _ => v = .slice qk ln dk
  | 8, v, _, _ => v = .bool true
  | 9, v, _, _ => v = .bool false
  | _, _, _, _ => True
theorem slPhi_w {a b n ca cb k ln ck dk : Nat} {pk qk : Option Addr} {j : Nat} {v : Value} {W W' : World} {γ γ' : Nat → Nat} (h : slPhi a b n ca cb k ln ck dk pk qk j v W γ) : slPhi a b n ca cb k ln ck dk pk qk j v W' γ' := by
  unfold slPhi at h ⊢
  split at h <;> first | exact h | trivial
/-- A list of lists. -/
def Ones (w : World) (B a n : Nat) (L : List (List Int)) (p : Nat → Option Addr) (c : Nat → Nat) : Prop := a < B ∧ L.length = n ∧ ∀ j l, L[j]? = some l → w.cell? ⟨a, j, none⟩ = some (.slice (p j) l.length (c j)) ∧ Rd w B 1 encI (p j) l.length l ∧ l.length ≤ 1000000
set_option maxRecDepth 100000 in
set_option maxHeartbeats 2000000 in
theorem SameLists_yes (a b n ca cb : Nat) (L : List (List Int)) (p q : Nat → Option Addr) (c d : Nat → Nat) (w : World) (hn : n ≤ 1000000) (h1 : Ones w w.heap.size a n L p c) (h2 : Ones w w.heap.size b n L q d) :
    Calls Try.prog 39 #[.slice (some ⟨a, 0, none⟩) n ca, .slice (some ⟨b, 0, none⟩) n cb] w fun e w' => e = .returned (.bool true) ∧ Below w.heap.size w w' := by
  have H1 := Lib.hid h1
  have H2 := Lib.hid h2
  clear h1 h2
  go_enter Try.func39, Try.ntmps39
  go_wp2
  go_loopw [5] (fun i wr => ∃ k : Nat, k ≤ n ∧ i = .int .i64 k ∧ Hid (Below w.heap.size w wr)) (fun i _ => n - (intOf i).toNat)
  case atStart => exact ⟨0, by omega, rfl, Lib.hid (Below.refl _ _)⟩
  case round =>
    obtain ⟨k, hk, rfl, HB⟩ := hrel
    by_cases hlt : k < n
    · obtain ⟨l, hl⟩ : ∃ l, L[k]? = some l := ⟨_, List.getElem?_eq_getElem (by rw [H1.out.2.1]; exact hlt)⟩
      obtain ⟨u1, u2, u3⟩ := H1.out.2.2 k l hl
      obtain ⟨v1, v2, v3⟩ := H2.out.2.2 k l hl
      have c1 := (HB.out.cell (p := ⟨a, k, none⟩) H1.out.1).trans u1
      have c2 := (HB.out.cell (p := ⟨b, k, none⟩) H2.out.1).trans v1
      have z1 : a < wr.heap.size := Nat.lt_of_lt_of_le H1.out.1 HB.out.size
      have z2 : b < wr.heap.size := Nat.lt_of_lt_of_le H2.out.1 HB.out.size
      have hk0 : (0 : Int) ≤ (k : Int) := by omega
      have hkn : (k : Int) < (n : Int) := by omega
      have hk9 : (k : Int) ≤ 1000000 := by omega
      have KS := Lib.hid (fun W (h : Below wr.heap.size wr W) => SameList_yes (p k) (q k) l.length (c k) (d k) l W ((u2.next HB.out).next h) ((v2.next HB.out).next h) u3)
      obtain ⟨pk, hpk⟩ : ∃ z, z = p k := ⟨_, rfl⟩
      obtain ⟨qk, hqk⟩ : ∃ z, z = q k := ⟨_, rfl⟩
      obtain ⟨ck, hck⟩ : ∃ z, z = c k := ⟨_, rfl⟩
      obtain ⟨dk, hdk⟩ : ∃ z, z = d k := ⟨_, rfl⟩
      obtain ⟨ln, hln⟩ : ∃ z, z = l.length := ⟨_, rfl⟩
      rw [← hpk, ← hqk, ← hck, ← hdk, ← hln] at KS
      rw [← hpk, ← hck, ← hln] at c1
      rw [← hqk, ← hdk, ← hln] at c2
      have HLT := Lib.hid hlt
      have HZC := Lib.hid (And.intro z1 (And.intro z2 (And.intro c1 c2)))
      clear c1 c2 z1 z2 hl u1 u2 u3 v1 v2 v3 hpk hqk hck hdk hln hlt hk
      go_wp2
      refine wp_region_free10 9 (by kernel_rfl) [some 17, some 18, some 19, some 20, some 21, some 22, some 23, some 24, some 25, some 26] [[], [], [0, 1], [2], [], [], [4, 5], [6], [3, 7], [8]] [(0, .slice (some ⟨a, 0, none⟩) n ca), (5, .int .i64 (k : Int)), (1, .slice (some ⟨b, 0, none⟩) n cb)] (fun W _ => Below wr.heap.size wr W) (slPhi a b n ca cb k ln ck dk pk qk) (fun _ _ _ => True) (by kernel_rfl) (by kernel_rfl) rfl (by kernel_rfl) ?_ ?_ ⟨fun _ => 0, (Below.refl _ _).drew, fun _ _ => trivial⟩ ?_ ?_
      · intro z hz
        simp only [List.mem_cons, List.mem_nil_iff, or_false] at hz
        rcases hz with rfl | rfl | rfl
        all_goals exact ⟨by kernel_rfl, rfl⟩
      · intro i v W γ hi h
        rcases i with _ | _ | _ | _ | _ | _ | _ | _ | _ | _ | i
        all_goals first | exact h | (simp at hi)
      · refine ⟨?_, ?_, ?_, ?_, ?_, ?_, ?_, ?_, ?_, ?_, trivial⟩
        all_goals
          intro a9 W γ ev hcc hff hfx hR hψ hpre
          simp only [List.mem_cons, List.mem_nil_iff, or_false, forall_eq, forall_eq_or_imp] at hfx
          obtain ⟨f0, f1, f2⟩ := hfx
          have HR := Lib.hid hR
          clear hR
        · refine ⟨fun hg K hK => ?_, trivial⟩
          clear hg
          clear hpre hψ
          go_simp
          exact hK _ _ γ HR.out (fun _ _ _ _ h => h) (fun _ _ _ h => h) rfl
        · refine ⟨fun hg K hK => ?_, trivial⟩
          clear hg
          clear hpre hψ
          go_simp
          exact hK _ _ γ HR.out (fun _ _ _ _ h => h) (fun _ _ _ h => h) rfl
        · refine ⟨fun hg K hK => ?_, trivial⟩
          clear hg
          have q0 : ev (.tmp 17) = _ := hpre 0 (by decide)
          have q1 : ev (.tmp 18) = _ := hpre 1 (by decide)
          clear hpre hψ
          go_simp
          exact hK _ _ γ HR.out (fun _ _ _ _ h => h) (fun _ _ _ h => h) rfl
        · refine ⟨fun hg K hK => ?_, trivial⟩
          clear hg
          have q0 : ev (.tmp 19) = _ := hpre 2 (by decide)
          have cy := (HR.out.cell (p := ⟨a, k, none⟩) HZC.out.1).trans HZC.out.2.2.1
          have zy : a < W.heap.size := Nat.lt_of_lt_of_le HZC.out.1 HR.out.size
          clear hpre hψ
          go_simp
          exact hK _ _ γ HR.out (fun _ _ _ _ h => h) (fun _ _ _ h => h) rfl
        · refine ⟨fun hg K hK => ?_, trivial⟩
          clear hg
          clear hpre hψ
          go_simp
          exact hK _ _ γ HR.out (fun _ _ _ _ h => h) (fun _ _ _ h => h) rfl
        · refine ⟨fun hg K hK => ?_, trivial⟩
          clear hg
          clear hpre hψ
          go_simp
          exact hK _ _ γ HR.out (fun _ _ _ _ h => h) (fun _ _ _ h => h) rfl
        · refine ⟨fun hg K hK => ?_, trivial⟩
          clear hg
          have q0 : ev (.tmp 21) = _ := hpre 4 (by decide)
          have q1 : ev (.tmp 22) = _ := hpre 5 (by decide)
          clear hpre hψ
          go_simp
          exact hK _ _ γ HR.out (fun _ _ _ _ h => h) (fun _ _ _ h => h) rfl
        · refine ⟨fun hg K hK => ?_, trivial⟩
          clear hg
          have q0 : ev (.tmp 23) = _ := hpre 6 (by decide)
          have cy := (HR.out.cell (p := ⟨b, k, none⟩) HZC.out.2.1).trans HZC.out.2.2.2
          have zy : b < W.heap.size := Nat.lt_of_lt_of_le HZC.out.2.1 HR.out.size
          clear hpre hψ
          go_simp
          exact hK _ _ γ HR.out (fun _ _ _ _ h => h) (fun _ _ _ h => h) rfl
        · refine ⟨fun hg K hK => ?_, trivial⟩
          clear hg
          have q0 : ev (.tmp 20) = _ := hpre 3 (by decide)
          have q1 : ev (.tmp 24) = _ := hpre 7 (by decide)
          have HXA := HR
          clear hpre hψ
          go_simp
          refine (KS.out W HXA.out).mono ?_
          rintro e9 w5 ⟨rfl, hB5⟩
          exact hK _ w5 γ (below3 HXA.out hB5 (Nat.le_refl _)) (fun j u hj hne h => slPhi_w h) (fun _ _ _ h => h) rfl
        · refine ⟨fun hg K hK => ?_, trivial⟩
          clear hg
          have q0 : ev (.tmp 25) = _ := hpre 8 (by decide)
          clear hpre hψ
          go_simp
          exact hK _ _ γ HR.out (fun _ _ _ _ h => h) (fun _ _ _ h => h) rfl
      · intro vs wy γ hvl hR hφ
        have q9 := hφ 9 (by decide)
        have HR := Lib.hid hR
        clear hφ hR
        match vs, hvl with
        | [y0, y1, y2, y3, y4, y5, y6, y7, y8, y9], _ =>
        simp only [List.getD_cons_zero, List.getD_cons_succ] at q9
        obtain rfl : y9 = _ := q9
        have HBY : Hid (Below w.heap.size w wy) := Lib.hid (below3 HB.out HR.out (Nat.le_refl _))
        clear HR
        simp [putAll]
        go_wp2
        go_roundw
        case rel => exact ⟨k + 1, by have := HLT.out; omega, by go_num, HBY⟩
        case measure => have := HLT.out; simp [intOf]; omega
    · obtain rfl : n = k := by omega
      go_wp2
      go_ret
      exact ⟨rfl, HB.out⟩
end Go.Proofs.Ytcecbohaajocfaa
