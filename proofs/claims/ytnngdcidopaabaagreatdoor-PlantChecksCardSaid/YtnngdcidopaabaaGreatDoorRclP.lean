/- What the reference's Clashes answers. Nothing here walks. -/
import Derived.Test.YtnngdcidopaabaaGreatDoorRefW
import Derived.Test.YtnngdcidopaabaaGreatDoorClash
import Derived.Test.YtnngdcidopaabaaGreatDoorRefLv
import Derived.Test.YtnngdcidopaabaaGreatDoorFree6

set_option linter.unusedSimpArgs false
set_option linter.unusedVariables false
namespace Go.Proofs.YtnngdcidopaabaaGreatDoor
open Go.RowKit

/-- Do two sources clash, as the reference asks? -/
def rclB {B : Nat} (s : Stt) (L : List (LnkOf B)) (m i k : Nat) (x y : Src) : Bool := feeds s i x && feeds s k y && mk (reachL s L m x.bus.toNat) y.bus.toNat && !syncd x y
def rclAt {B : Nat} (s : Stt) (S : List Src) (L : List (LnkOf B)) (m i k : Nat) : List (Int × Int) :=
  match S[i]?, S[k]? with
  | some x, some y => if rclB s L m i k x y then [((i : Int), (k : Int))] else []
  | _, _ => []
def rclRow {B : Nat} (s : Stt) (S : List Src) (L : List (LnkOf B)) (m i n : Nat) : List (Int × Int) := (List.range n).flatMap fun k => if i < k then rclAt s S L m i k else []
def rclTo {B : Nat} (s : Stt) (S : List Src) (L : List (LnkOf B)) (m sn n : Nat) : List (Int × Int) := (List.range n).flatMap fun i => rclRow s S L m i sn
theorem rclRow_succ {B : Nat} (s : Stt) (S : List Src) (L : List (LnkOf B)) (m i n : Nat) (h : i < n) : rclRow s S L m i (n + 1) = rclRow s S L m i n ++ rclAt s S L m i n := by
  unfold rclRow
  rw [List.range_succ, List.flatMap_append]
  simp [h]
theorem rclRow_start {B : Nat} (s : Stt) (S : List Src) (L : List (LnkOf B)) (m i : Nat) : rclRow s S L m i (i + 1) = [] := by
  unfold rclRow
  rw [List.flatMap_eq_nil_iff]
  intro k hk
  have := List.mem_range.1 hk
  rw [if_neg (by omega)]
theorem rclTo_succ {B : Nat} (s : Stt) (S : List Src) (L : List (LnkOf B)) (m sn n : Nat) : rclTo s S L m sn (n + 1) = rclTo s S L m sn n ++ rclRow s S L m n sn := by
  unfold rclTo
  rw [List.range_succ, List.flatMap_append]
  simp
theorem rclAt_length {B : Nat} (s : Stt) (S : List Src) (L : List (LnkOf B)) (m i k : Nat) : (rclAt s S L m i k).length ≤ 1 := by
  unfold rclAt
  split
  · split <;> simp
  · simp
theorem flat_le {α : Type} (f : Nat → List α) (c : Nat) (h : ∀ i, (f i).length ≤ c) : ∀ n, ((List.range n).flatMap f).length ≤ n * c
  | 0 => by simp
  | n + 1 => by
    rw [List.range_succ, List.flatMap_append, List.length_append, Nat.add_mul]
    have := flat_le f c h n
    have := h n
    simp only [List.flatMap_cons, List.flatMap_nil, List.append_nil]
    omega
theorem rclRow_length {B : Nat} (s : Stt) (S : List Src) (L : List (LnkOf B)) (m i n : Nat) : (rclRow s S L m i n).length ≤ n := by
  have := flat_le (fun k => if i < k then rclAt s S L m i k else []) 1 (fun k => by
    split
    · exact rclAt_length s S L m i k
    · simp) n
  unfold rclRow
  omega
theorem rclTo_length {B : Nat} (s : Stt) (S : List Src) (L : List (LnkOf B)) (m sn n : Nat) : (rclTo s S L m sn n).length ≤ n * sn :=
  flat_le _ sn (fun i => rclRow_length s S L m i sn) n
theorem feedTo_flat {B : Nat} (s : Stt) (S : List Src) (H : List Int) (n : Nat) : feedTo (B := B) s S H n = (List.range n).flatMap fun k => feedAt (B := B) s S H k := by
  induction n with
  | zero => rfl
  | succ n ih => rw [feedTo, ih, List.range_succ, List.flatMap_append]; simp
theorem feedAt_is {p : Plt} {s : Stt} {B : Nat} {L : List (LnkOf B)} (S : Sound p s B L) {k : Nat} {x : Src} (hx : p.srcs[k]? = some x) (hB : rootOf (joinAll (List.range B) (condTo s L p.ln)) x.bus.toNat < B) :
    feedAt (B := B) s p.srcs (homeL p s L) k = if feeds s k x then [(k, ⟨rootOf (joinAll (List.range B) (condTo s L p.ln)) x.bus.toNat, hB⟩)] else [] := by
  have hxb := S.srcs x (List.mem_of_getElem? hx)
  have hxB : x.bus.toNat < B := by omega
  unfold feedAt
  rw [hx]
  dsimp only
  rw [homeL_get p s L _ hxB]
  simp only [Option.getD_some]
  unfold feeds
  cases h1 : bit s.on k
  · simp
  · cases h2 : bit s.badSource k
    · simp only [Bool.true_and, Bool.not_false, if_true]
      cases h3 : bit s.badBus x.bus.toNat
      · rw [(isl_home (B := B) _ s x.bus.toNat ⟨_, hB⟩ hxB).2 ⟨h3, rfl⟩]
        simp
      · have : isl B (homeAt (joinAll (List.range B) (condTo s L p.ln)) s x.bus.toNat) = none := by
          unfold homeAt
          rw [h3, if_pos rfl]
          exact isl_none B
        rw [this]
        simp
    · simp
/-- THE REFERENCE's CLASHES ARE THE PROGRAM's. -/
theorem rcl_is {p : Plt} {s : Stt} {B : Nat} {L : List (LnkOf B)} (S : Sound p s B L) (hsn : p.srcs.length = p.sn) : clashL p s L = rclTo s p.srcs L p.ln p.sn p.sn := by
  unfold clashL clashOf clashRow rclTo rclRow
  rw [feedTo_flat, List.flatMap_assoc]
  have congr : ∀ (f g : Nat → List (Int × Int)), (∀ i, i < p.sn → f i = g i) → (List.range p.sn).flatMap f = (List.range p.sn).flatMap g := by
    intro f g h
    have h1 : ∀ (l : List Nat), (∀ i ∈ l, f i = g i) → l.flatMap f = l.flatMap g := by
      intro l hl
      induction l with
      | nil => rfl
      | cons a l ih => rw [List.flatMap_cons, List.flatMap_cons, hl a (List.mem_cons_self ..), ih (fun i hi => hl i (List.mem_cons_of_mem _ hi))]
    exact h1 _ (fun i hi => h i (List.mem_range.1 hi))
  apply congr
  intro i hi
  obtain ⟨x, hx⟩ : ∃ x, p.srcs[i]? = some x := ⟨_, List.getElem?_eq_getElem (by omega)⟩
  have hxb := S.srcs x (List.mem_of_getElem? hx)
  have hxB : x.bus.toNat < B := by omega
  have hxr := Nat.lt_of_le_of_lt (rootOf_le (joinAll (List.range B) (condTo s L p.ln)) x.bus.toNat) hxB
  rw [feedAt_is S hx hxr]
  cases hf : feeds s i x
  · simp only [Bool.false_eq_true, if_false, List.flatMap_nil]
    symm
    rw [List.flatMap_eq_nil_iff]
    intro k _
    split
    · unfold rclAt
      rw [hx]
      split
      · rename_i u v hu hv
        simp only [Option.some.injEq] at hu
        subst hu
        unfold rclB
        rw [hf]
        simp
      · rfl
    · rfl
  · simp only [if_true, List.flatMap_cons, List.flatMap_nil, List.append_nil]
    rw [List.flatMap_assoc]
    apply congr
    intro k hk
    obtain ⟨y, hy⟩ : ∃ y, p.srcs[k]? = some y := ⟨_, List.getElem?_eq_getElem (by omega)⟩
    have hyb := S.srcs y (List.mem_of_getElem? hy)
    have hyB : y.bus.toNat < B := by omega
    have hyr := Nat.lt_of_le_of_lt (rootOf_le (joinAll (List.range B) (condTo s L p.ln)) y.bus.toNat) hyB
    rw [feedAt_is S hy hyr]
    have hm : mk (reachL s L p.ln x.bus.toNat) y.bus.toNat = decide (rootOf (joinAll (List.range B) (condTo s L p.ln)) x.bus.toNat = rootOf (joinAll (List.range B) (condTo s L p.ln)) y.bus.toNat) := by
      rw [Bool.eq_iff_iff, reachL_iff s L p.ln _ _ hxB, decide_eq_true_iff, root_joined]
    unfold rclAt rclB
    rw [hx, hy]
    dsimp only
    rw [hf, hm]
    cases hg : feeds s k y
    · simp
    · simp only [if_true, List.flatMap_cons, List.flatMap_nil, List.append_nil, Bool.true_and]
      unfold clashAt clashB
      dsimp only
      rw [hx, hy]
      dsimp only
      by_cases hik : i < k
      · rw [if_pos hik]
        simp [hik]
      · rw [if_neg hik]
        simp [hik]
end Go.Proofs.YtnngdcidopaabaaGreatDoor

/- The reference's Clash and Clashes. -/
namespace Go.Proofs.YtnngdcidopaabaaGreatDoor
open Go.RowKit

theorem refClash_any (x y : Src) (w : World) : Calls Tryz.prog 71 #[x.val, y.val] w fun e w' => e = .returned (.bool (!syncd x y)) ∧ Below w.heap.size w w' := by
  unfold Src.val
  go_enter Tryz.func71, Tryz.ntmps71
  by_cases h2 : x.sync = y.sync
  · by_cases h1 : x.sync = 0
    · have h3 : y.sync = 0 := by omega
      go_wp2
      go_ret
      exact ⟨ret_bool (by simp [syncd, h1]), by (repeat' (first | (with_reducible exact Below.refl _ _) | (with_reducible assumption) | (with_reducible refine below_drewN ?_ _) | (with_reducible refine below_after (by assumption) ?_ ?_) | (with_reducible refine Below.drew ?_) | (with_reducible refine Below.alloc ?_ ?_ _) | (with_reducible refine Below.setCell ?_ ?_ _) | omega | (simp; omega) | (simp; done)))⟩
    · have h3 : ¬ y.sync = 0 := by omega
      go_wp2
      go_ret
      exact ⟨ret_bool (by unfold syncd; rw [h2]; simp [h3]), by (repeat' (first | (with_reducible exact Below.refl _ _) | (with_reducible assumption) | (with_reducible refine below_drewN ?_ _) | (with_reducible refine below_after (by assumption) ?_ ?_) | (with_reducible refine Below.drew ?_) | (with_reducible refine Below.alloc ?_ ?_ _) | (with_reducible refine Below.setCell ?_ ?_ _) | omega | (simp; omega) | (simp; done)))⟩
  · go_wp2
    go_ret
    exact ⟨ret_bool (by simp [syncd, h2]), by (repeat' (first | (with_reducible exact Below.refl _ _) | (with_reducible assumption) | (with_reducible refine below_drewN ?_ _) | (with_reducible refine below_after (by assumption) ?_ ?_) | (with_reducible refine Below.drew ?_) | (with_reducible refine Below.alloc ?_ ?_ _) | (with_reducible refine Below.setCell ?_ ?_ _) | omega | (simp; omega) | (simp; done)))⟩
def clPhi (pv sv : Value) (P b off i k ci ck B sn sc : Nat) (Rl : List Bool) (xv yv : Value) (fi fk g1 m g2 cl rr : Bool) : Nat → Value → World → (Nat → Nat) → Prop
  | 0, v, _, _ => v = pv
  | 1, v, _, _ => v = sv
  | 2, v, _, _ => v = .int .i64 i
  | 3, v, _, _ => v = .bool fi
  | 4, v, _, _ => v = .bool fi
  | 5, v, _, _ => fi = true → v = pv
  | 6, v, _, _ => fi = true → v = sv
  | 7, v, _, _ => fi = true → v = .int .i64 k
  | 8, v, _, _ => fi = true → v = .bool fk
  | 9, v, _, _ => v = .bool g1
  | 10, v, _, _ => v = .bool g1
  | 11, v, _, _ => g1 = true → v = pv
  | 12, v, _, _ => g1 = true → v = sv
  | 13, v, _, _ => g1 = true → v = .pointer (some ⟨P, 1, none⟩)
  | 14, v, _, _ => g1 = true → v = .slice (some ⟨b, off, none⟩) sn sc
  | 15, v, _, _ => g1 = true → v = .int .i64 i
  | 16, v, _, _ => g1 = true → v = .pointer (some ⟨b, off + i * 5, none⟩)
  | 17, v, _, _ => g1 = true → v = .pointer (some ⟨b, off + i * 5, none⟩)
  | 18, v, _, _ => g1 = true → v = .int .i64 ci
  | 19, v, W, _ => g1 = true → ∃ g, v = .slice (some ⟨g, 0, none⟩) B B ∧ BoolB W g Rl
  | 20, v, _, _ => g1 = true → v = .pointer (some ⟨P, 1, none⟩)
  | 21, v, _, _ => g1 = true → v = .slice (some ⟨b, off, none⟩) sn sc
  | 22, v, _, _ => g1 = true → v = .int .i64 k
  | 23, v, _, _ => g1 = true → v = .pointer (some ⟨b, off + k * 5, none⟩)
  | 24, v, _, _ => g1 = true → v = .pointer (some ⟨b, off + k * 5, none⟩)
  | 25, v, _, _ => g1 = true → v = .int .i64 ck
  | 26, v, W, _ => g1 = true → ∃ g, v = .pointer (some ⟨g, ck, none⟩) ∧ BoolB W g Rl
  | 27, v, _, _ => g1 = true → v = .bool m
  | 28, v, _, _ => v = .bool g2
  | 29, v, _, _ => v = .bool g2
  | 30, v, _, _ => g2 = true → v = .pointer (some ⟨P, 1, none⟩)
  | 31, v, _, _ => g2 = true → v = .slice (some ⟨b, off, none⟩) sn sc
  | 32, v, _, _ => g2 = true → v = .int .i64 i
  | 33, v, _, _ => g2 = true → v = .pointer (some ⟨b, off + i * 5, none⟩)
  | 34, v, _, _ => g2 = true → v = xv
  | 35, v, _, _ => g2 = true → v = .pointer (some ⟨P, 1, none⟩)
  | 36, v, _, _ => g2 = true → v = .slice (some ⟨b, off, none⟩) sn sc
  | 37, v, _, _ => g2 = true → v = .int .i64 k
  | 38, v, _, _ => g2 = true → v = .pointer (some ⟨b, off + k * 5, none⟩)
  | 39, v, _, _ => g2 = true → v = yv
  | 40, v, _, _ => g2 = true → v = .bool cl
  | 41, v, _, _ => v = .bool rr
  | _, _, _, _ => True
theorem clPhi_kept {pv sv : Value} {P b off i k ci ck B sn sc : Nat} {Rl : List Bool} {xv yv : Value} {fi fk g1 m g2 cl rr : Bool} {W W' : World} {γ γ' : Nat → Nat} (hb : Below W.heap.size W W') (j : Nat) (v : Value) (hv : clPhi pv sv P b off i k ci ck B sn sc Rl xv yv fi fk g1 m g2 cl rr j v W γ) : clPhi pv sv P b off i k ci ck B sn sc Rl xv yv fi fk g1 m g2 cl rr j v W' γ' := by
  unfold clPhi at hv ⊢
  split at hv <;> first | exact hv | trivial | (intro hg; obtain ⟨g, h1, h2⟩ := hv hg; exact ⟨g, h1, Blk.below h2 hb (Blk.lt h2)⟩)
set_option maxRecDepth 100000 in
set_option maxHeartbeats 8000000 in
theorem refClashes_ok (p : Plt) (s : Stt) (B : Nat) (L : List (LnkOf B)) (S : Sound p s B L) (hsn : p.sn ≤ 24) (hln : p.ln ≤ 40) (w : World) (hc : checkState p s = 0) (hp : PltIn w w.heap.size p) (hs : SttIn w w.heap.size s) :
    Calls Tryz.prog 23 #[p.val, s.val] w fun e w' => ∃ (A : Option Addr) (c : Nat), e = .returned (.tuple #[.slice A (clashL p s L).length c, .int .i64 0]) ∧ Below w.heap.size w w' ∧ Rd w' w'.heap.size 2 encP A (clashL p s L).length (clashL p s L) := by
  have hsl : p.srcs.length = p.sn := hp.src.1
  have CS := Lib.hid (fun W hp hs => refCheckState_any p s W hp hs)
  rw [hc] at CS
  have FE := Lib.hid (fun k x hx W hp hs => refFeeds_any p s B L S k x hx W hp hs)
  have RE := Lib.hid (fun b hb W hp hs => refReach_any p s B L S hln b hb W hp hs)
  have HS := Lib.hid S
  have eB := S.buses
  have kB := S.small
  obtain ⟨i0, hi, hz0, hz1, hz2⟩ := info_parts pairInfo
  have LO0 : Lo w p s w.heap.size (w.heap.size + 1) ((w.alloc (.cells (pBox p) 26)).alloc (.cells (sBox s) 29)) := by
    have hb : Below w.heap.size w ((w.alloc (.cells (pBox p) 26)).alloc (.cells (sBox s) 29)) := by (repeat' (first | (with_reducible exact Below.refl _ _) | (with_reducible assumption) | (with_reducible refine below_drewN ?_ _) | (with_reducible refine below_after (by assumption) ?_ ?_) | (with_reducible refine Below.drew ?_) | (with_reducible refine Below.alloc ?_ ?_ _) | (with_reducible refine Below.setCell ?_ ?_ _) | omega | (simp; omega) | (simp; done)))
    refine ⟨hb, hp.next hb, hs.next hb, Blk.alloc (heap_alloc_new w _) _, ?_⟩
    have := heap_alloc_new (w.alloc (.cells (pBox p) 26)) (.cells (sBox s) 29)
    rw [World.size_alloc] at this
    exact this
  unfold pBox sBox at LO0
  rw [eB] at LO0
  have HLO0 := Lib.hid LO0
  rw [rcl_is S hsl]
  clear hp hs S hc LO0
  unfold Plt.val Stt.val at CS FE RE ⊢
  rw [eB] at CS FE RE ⊢
  go_enter Tryz.func23, Tryz.ntmps23
  go_wp2_with fail
  refine (CS.out _ HLO0.out.plt HLO0.out.stt).mono ?_
  rintro e w1 ⟨rfl, hB1⟩
  have HLO1 := Lib.hid (HLO0.out.next hB1)
  clear hB1 HLO0 CS
  go_wp2
  have JW : Hid (Below w1.heap.size w1 w1 ∧ w1.ownsRow w1.heap.size 79 2 (.slice none 0 0) (rclTo s p.srcs L p.ln p.sn 0).length (pairCells (rclTo s p.srcs L p.ln p.sn 0))) := ⟨Below.refl _ _, World.ownsRow_nil _ _ _ _⟩
  go_loopw [7, 8, 9] (fun u i _ wr => ∃ n : Nat, n ≤ p.sn ∧ i = .int .i64 n ∧ Hid (Below w1.heap.size w1 wr ∧ wr.ownsRow w1.heap.size 79 2 u (rclTo s p.srcs L p.ln p.sn n).length (pairCells (rclTo s p.srcs L p.ln p.sn n)))) (fun _ i _ _ => p.sn - (intOf i).toNat)
  case atStart => exact ⟨0, by omega, rfl, JW⟩
  case round =>
    clear JW
    obtain ⟨n, hn, rfl, HJ⟩ := hrel
    obtain ⟨p0, p1, p2, p3⟩ := (HLO1.out.next HJ.out.1).pc
    by_cases hlt : n < p.sn
    · have hn0 : (0 : Int) ≤ (n : Int) := by omega
      have hnn : (n : Int) < (p.sn : Int) := by omega
      have hrl := rclTo_length s p.srcs L p.ln p.sn n
      have hmul : n * p.sn ≤ 24 * 24 := Nat.mul_le_mul (by omega) hsn
      obtain ⟨xs, hxs⟩ : ∃ xs, rclTo s p.srcs L p.ln p.sn n = xs := ⟨_, rfl⟩
      have HXS := Lib.hid hxs
      rw [hxs] at HJ hrl
      have hxl : xs.length ≤ 576 := by omega
      clear hxs hrl hmul
      go_wp2
      obtain ⟨wr0, e0⟩ : ∃ x, x = wr := ⟨wr, rfl⟩
      subst e0
      have JS : Hid (Below w1.heap.size w1 wr0 ∧ wr0.ownsRow w1.heap.size 79 2 u7 (xs ++ rclRow s p.srcs L p.ln n (n + 1)).length (pairCells (xs ++ rclRow s p.srcs L p.ln n (n + 1)))) := by rw [rclRow_start, List.append_nil]; exact HJ.out
      clear HJ p0 p1 p2 p3
      go_loopw [7, 9] (fun u i wr => ∃ k : Nat, n + 1 ≤ k ∧ k ≤ p.sn ∧ i = .int .i64 k ∧ Hid (Below w1.heap.size w1 wr ∧ wr.ownsRow w1.heap.size 79 2 u (xs ++ rclRow s p.srcs L p.ln n k).length (pairCells (xs ++ rclRow s p.srcs L p.ln n k)))) (fun _ i _ => p.sn - (intOf i).toNat)
      case atStart => exact ⟨n + 1, by omega, by omega, by go_num, JS⟩
      case round =>
        clear JS
        obtain ⟨k, hnk, hk, rfl, HJ⟩ := hrel
        have HLr := Lib.hid (HLO1.out.next HJ.out.1)
        obtain ⟨p0, p1, p2, p3⟩ := HLr.out.pc
        obtain ⟨un, hun⟩ : ∃ z, z = u7 := ⟨u7, rfl⟩
        subst hun
        by_cases hkl : k < p.sn
        · obtain ⟨b, off, x, e1, hb, hx, hcx⟩ := HLr.out.plt.src.at_ hlt
          obtain ⟨b', off', y, e1', -, hy, hcy⟩ := HLr.out.plt.src.at_ hkl
          rw [e1] at e1'
          cases e1'
          obtain ⟨ci, hcb, hcB, hcn⟩ := src_nat HS.out hx
          obtain ⟨ck, hdb, hdB, hdn⟩ := src_nat HS.out hy
          have DI : Hid (∀ W, Below wr.heap.size wr W → W.cell? ⟨b, off + n * 5, none⟩ = some (.int .i64 (ci : Int)) ∧ W.cell? ⟨b, off + n * 5 + 1, none⟩ = some (.int .i64 x.kind) ∧ W.cell? ⟨b, off + n * 5 + 2, none⟩ = some (.int .i64 x.power) ∧ W.cell? ⟨b, off + n * 5 + 3, none⟩ = some (.int .i64 x.sync) ∧ W.cell? ⟨b, off + n * 5 + 4, none⟩ = some (.int .i64 x.ohm)) := fun W hW => by
            have h := Src.cells (w := W) (b := b) (o := off + n * 5) (x := x) (fun j u hu => (hW.cell (p := ⟨b, _, none⟩) hb).trans (hcx j u hu))
            rw [hcb] at h
            exact h
          have DK : Hid (∀ W, Below wr.heap.size wr W → W.cell? ⟨b, off + k * 5, none⟩ = some (.int .i64 (ck : Int)) ∧ W.cell? ⟨b, off + k * 5 + 1, none⟩ = some (.int .i64 y.kind) ∧ W.cell? ⟨b, off + k * 5 + 2, none⟩ = some (.int .i64 y.power) ∧ W.cell? ⟨b, off + k * 5 + 3, none⟩ = some (.int .i64 y.sync) ∧ W.cell? ⟨b, off + k * 5 + 4, none⟩ = some (.int .i64 y.ohm)) := fun W hW => by
            have h := Src.cells (w := W) (b := b) (o := off + k * 5) (x := y) (fun j u hu => (hW.cell (p := ⟨b, _, none⟩) hb).trans (hcy j u hu))
            rw [hdb] at h
            exact h
          have FI := Lib.hid (fun W hp hs => FE.out n x hx W hp hs)
          have FK := Lib.hid (fun W hp hs => FE.out k y hy W hp hs)
          have REi := Lib.hid (fun W hp hs => RE.out ci hcB W hp hs)
          have CL := Lib.hid (fun W => refClash_any x y W)
          unfold Src.val at CL
          rw [hcb, hdb] at CL
          rw [e1] at FI FK REi
          obtain ⟨fi, hfi⟩ : ∃ u, feeds s n x = u := ⟨_, rfl⟩
          obtain ⟨fk, hfk⟩ : ∃ u, feeds s k y = u := ⟨_, rfl⟩
          obtain ⟨Rl, hRl⟩ : ∃ V, reachL s L p.ln ci = V := ⟨_, rfl⟩
          have hRll : Rl.length = B := by rw [← hRl, reachL_length]
          obtain ⟨m, hm⟩ : ∃ u, mk Rl ck = u := ⟨_, rfl⟩
          obtain ⟨cl, hcl⟩ : ∃ u, (!syncd x y) = u := ⟨_, rfl⟩
          obtain ⟨g1, hg1⟩ : ∃ u, (fi && fk) = u := ⟨_, rfl⟩
          obtain ⟨g2, hg2⟩ : ∃ u, (g1 && m) = u := ⟨_, rfl⟩
          obtain ⟨rr, hrr⟩ : ∃ u, (g2 && cl) = u := ⟨_, rfl⟩
          have hat : rclAt s p.srcs L p.ln n k = if rr then [((n : Int), (k : Int))] else [] := by
            unfold rclAt rclB
            rw [hx, hy]
            dsimp only
            rw [hfi, hfk, hcn, hRl, hdn, hm, hcl, hg1, hg2, hrr]
          have hsu := rclRow_succ s p.srcs L p.ln n k (by omega)
          rw [hat] at hsu
          have HSU := Lib.hid hsu
          rw [hfi] at FI
          rw [hfk] at FK
          rw [hRl] at REi
          rw [hcl] at CL
          have HM := Lib.hid hm
          have HG1 := Lib.hid hg1
          have HG2 := Lib.hid hg2
          have HRR := Lib.hid hrr
          have HE1 := Lib.hid e1
          have hk0 : (0 : Int) ≤ (k : Int) := by omega
          have hkn : (k : Int) < (p.sn : Int) := by omega
          have hc0 : (0 : Int) ≤ (ck : Int) := by omega
          have hcB' : (ck : Int) < (B : Int) := by omega
          have hyl := rclRow_length s p.srcs L p.ln n k
          clear hx hy hcx hcy hcb hdb hcn hdn hfi hfk hRl hm hcl hg1 hg2 hrr hat hsu e1
          go_wp2
          refine wp_region_free8 [some 32, some 33, some 34, some 35, some 36, some 37, some 38, some 39, some 40, some 41, some 42, some 43, some 44, some 45, some 46, some 47, some 48, some 49, some 50, some 51, some 52, some 53, some 54, some 55, some 56, some 57, some 58, some 59, some 60, some 61, some 62, some 63, some 64, some 65, some 66, some 67, some 68, some 69, some 70, some 71, some 72, some 73] [[], [], [], [0, 1, 2], [3, 3], [4], [4], [4], [5, 6, 7, 4, 4], [4, 8], [9, 8], [10], [10], [10], [13, 10], [10], [14, 15, 10], [16, 10], [17, 10], [11, 12, 18, 10, 10], [10], [20, 10], [10], [21, 22, 10], [23, 10], [24, 10], [19, 25, 10], [26, 10], [10, 27], [28, 19], [29], [30, 29], [29], [31, 32, 29], [33, 29], [29], [35, 29], [29], [36, 37, 29], [38, 29], [34, 39, 29, 29], [29, 40]] [(2, .pointer (some ⟨w.heap.size, 0, none⟩)), (3, .pointer (some ⟨w.heap.size + 1, 0, none⟩)), (8, .int .i64 (n : Int)), (9, .int .i64 (k : Int))] (fun W _ => Below wr.heap.size wr W) (clPhi (.agg #[.int .i64 (B : Int), .slice (some ⟨b, off, none⟩) p.sn p.sc, .slice p.lA p.ln p.lc, .slice p.rA p.rn p.rc]) (.agg #[.slice s.closed.A s.closed.n s.closed.c, .slice s.locked.A s.locked.n s.locked.c, .slice s.badLink.A s.badLink.n s.badLink.c, .slice s.on.A s.on.n s.on.c, .slice s.badSource.A s.badSource.n s.badSource.c, .slice s.earthed.A s.earthed.n s.earthed.c, .slice s.badBus.A s.badBus.n s.badBus.c]) w.heap.size b off n k ci ck B p.sn p.sc Rl (.agg #[.int .i64 (ci : Int), .int .i64 x.kind, .int .i64 x.power, .int .i64 x.sync, .int .i64 x.ohm]) (.agg #[.int .i64 (ck : Int), .int .i64 y.kind, .int .i64 y.power, .int .i64 y.sync, .int .i64 y.ohm]) fi fk g1 m g2 cl rr) (by kernel_rfl) (by kernel_rfl) rfl (by kernel_rfl) ?_ ?_ ⟨fun _ => 0, ?_⟩ ?_ ?_
          · intro z hz
            simp only [List.mem_cons, List.mem_nil_iff, or_false] at hz
            rcases hz with rfl | rfl | rfl | rfl
            · exact ⟨rfl, rfl⟩
            · exact ⟨rfl, rfl⟩
            · exact ⟨rfl, rfl⟩
            · exact ⟨rfl, rfl⟩
          · intro i v W γ hi h
            have := List.mem_of_getElem? hi
            simp at this
          · exact (Below.refl _ _).drew
          · refine ⟨?_, ?_, ?_, ?_, ?_, ?_, ?_, ?_, ?_, ?_, ?_, ?_, ?_, ?_, ?_, ?_, ?_, ?_, ?_, ?_, ?_, ?_, ?_, ?_, ?_, ?_, ?_, ?_, ?_, ?_, ?_, ?_, ?_, ?_, ?_, ?_, ?_, ?_, ?_, ?_, ?_, ?_, trivial⟩
            all_goals
              intro a W γ ev hcc hff hfx hR hpre
              simp only [List.mem_cons, List.mem_nil_iff, or_false, forall_eq, forall_eq_or_imp] at hfx
              obtain ⟨f2, f3, f8, f9⟩ := hfx
              have HR := Lib.hid hR
              have HLW := Lib.hid (HLr.out.next hR)
              clear hR
              refine ⟨fun hgd K hK => ?_, ?_⟩
            · obtain ⟨p0, p1, p2, p3⟩ := HLW.out.pc
              rw [eB] at p0
              rw [HE1.out] at p1
              clear hpre
              go_simp
              exact hK _ _ _ HR.out (fun _ _ _ _ h => h) rfl
            · trivial
            · obtain ⟨s0, s1, s2, s3, s4, s5, s6⟩ := sBox_cells HLW.out.bs
              clear hpre
              go_simp
              exact hK _ _ _ HR.out (fun _ _ _ _ h => h) rfl
            · trivial
            · clear hpre
              go_simp
              exact hK _ _ _ HR.out (fun _ _ _ _ h => h) rfl
            · trivial
            · have q1 : ev (.tmp 32) = _ := hpre 0 (by decide)
              have q2 : ev (.tmp 33) = _ := hpre 1 (by decide)
              have q3 : ev (.tmp 34) = _ := hpre 2 (by decide)
              have C := Lib.hid (FI.out W HLW.out.plt HLW.out.stt)
              clear hpre
              go_simp
              refine C.out.mono ?_
              rintro e w5 ⟨rfl, hB⟩
              exact hK _ w5 γ (below_after hB (Nat.le_refl _) HR.out) (fun j u _ _ h => clPhi_kept hB j u h) rfl
            · trivial
            · have q1 : ev (.tmp 35) = _ := hpre 3 (by decide)
              clear hpre
              go_simp
              exact hK _ _ _ HR.out (fun _ _ _ _ h => h) rfl
            · trivial
            · have hT : fi = true := by
                have h9 : ev (.tmp 36) = .bool fi := hpre 4 (by decide)
                have h8 : ev (.tmp 36) = .bool true := hgd
                rw [h9] at h8
                exact Value.bool.inj h8
              obtain ⟨p0, p1, p2, p3⟩ := HLW.out.pc
              rw [eB] at p0
              rw [HE1.out] at p1
              clear hpre
              go_simp
              exact hK _ _ _ HR.out (fun _ _ _ _ h => h) (fun _ => rfl)
            · exact fun hne hh => absurd ((show ev (.tmp 36) = .bool fi from hpre 4 (by decide)).trans (by rw [hh])) hne
            · have hT : fi = true := by
                have h9 : ev (.tmp 36) = .bool fi := hpre 4 (by decide)
                have h8 : ev (.tmp 36) = .bool true := hgd
                rw [h9] at h8
                exact Value.bool.inj h8
              obtain ⟨s0, s1, s2, s3, s4, s5, s6⟩ := sBox_cells HLW.out.bs
              clear hpre
              go_simp
              exact hK _ _ _ HR.out (fun _ _ _ _ h => h) (fun _ => rfl)
            · exact fun hne hh => absurd ((show ev (.tmp 36) = .bool fi from hpre 4 (by decide)).trans (by rw [hh])) hne
            · have hT : fi = true := by
                have h9 : ev (.tmp 36) = .bool fi := hpre 4 (by decide)
                have h8 : ev (.tmp 36) = .bool true := hgd
                rw [h9] at h8
                exact Value.bool.inj h8
              clear hpre
              go_simp
              exact hK _ _ _ HR.out (fun _ _ _ _ h => h) (fun _ => rfl)
            · exact fun hne hh => absurd ((show ev (.tmp 36) = .bool fi from hpre 4 (by decide)).trans (by rw [hh])) hne
            · have hT : fi = true := by
                have h9 : ev (.tmp 36) = .bool fi := hpre 4 (by decide)
                have h8 : ev (.tmp 36) = .bool true := hgd
                rw [h9] at h8
                exact Value.bool.inj h8
              have q1 : ev (.tmp 37) = _ := hpre 5 (by decide) hT
              have q2 : ev (.tmp 38) = _ := hpre 6 (by decide) hT
              have q3 : ev (.tmp 39) = _ := hpre 7 (by decide) hT
              have C := Lib.hid (FK.out W HLW.out.plt HLW.out.stt)
              clear hpre
              go_simp
              refine C.out.mono ?_
              rintro e w5 ⟨rfl, hB⟩
              exact hK _ w5 γ (below_after hB (Nat.le_refl _) HR.out) (fun j u _ _ h => clPhi_kept hB j u h) (fun _ => rfl)
            · exact fun hne hh => absurd ((show ev (.tmp 36) = .bool fi from hpre 4 (by decide)).trans (by rw [hh])) hne
            · have q1 : ev (.tmp 36) = _ := hpre 4 (by decide)
              cases fi
              · clear hpre
                go_simp
                exact hK _ _ _ HR.out (fun _ _ _ _ h => h) (by show _ = Value.bool g1; rw [← HG1.out]; rfl)
              · have q2 : ev (.tmp 40) = _ := hpre 8 (by decide) rfl
                clear hpre
                go_simp
                exact hK _ _ _ HR.out (fun _ _ _ _ h => h) (by show _ = Value.bool g1; rw [← HG1.out]; rfl)
            · trivial
            · have q1 : ev (.tmp 41) = _ := hpre 9 (by decide)
              clear hpre
              go_simp
              exact hK _ _ _ HR.out (fun _ _ _ _ h => h) rfl
            · trivial
            · have hT : g1 = true := by
                have h9 : ev (.tmp 42) = .bool g1 := hpre 10 (by decide)
                have h8 : ev (.tmp 42) = .bool true := hgd
                rw [h9] at h8
                exact Value.bool.inj h8
              obtain ⟨p0, p1, p2, p3⟩ := HLW.out.pc
              rw [eB] at p0
              rw [HE1.out] at p1
              clear hpre
              go_simp
              exact hK _ _ _ HR.out (fun _ _ _ _ h => h) (fun _ => rfl)
            · exact fun hne hh => absurd ((show ev (.tmp 42) = .bool g1 from hpre 10 (by decide)).trans (by rw [hh])) hne
            · have hT : g1 = true := by
                have h9 : ev (.tmp 42) = .bool g1 := hpre 10 (by decide)
                have h8 : ev (.tmp 42) = .bool true := hgd
                rw [h9] at h8
                exact Value.bool.inj h8
              obtain ⟨s0, s1, s2, s3, s4, s5, s6⟩ := sBox_cells HLW.out.bs
              clear hpre
              go_simp
              exact hK _ _ _ HR.out (fun _ _ _ _ h => h) (fun _ => rfl)
            · exact fun hne hh => absurd ((show ev (.tmp 42) = .bool g1 from hpre 10 (by decide)).trans (by rw [hh])) hne
            · have hT : g1 = true := by
                have h9 : ev (.tmp 42) = .bool g1 := hpre 10 (by decide)
                have h8 : ev (.tmp 42) = .bool true := hgd
                rw [h9] at h8
                exact Value.bool.inj h8
              clear hpre
              go_simp
              exact hK _ _ _ HR.out (fun _ _ _ _ h => h) (fun _ => rfl)
            · exact fun hne hh => absurd ((show ev (.tmp 42) = .bool g1 from hpre 10 (by decide)).trans (by rw [hh])) hne
            · have hT : g1 = true := by
                have h9 : ev (.tmp 42) = .bool g1 := hpre 10 (by decide)
                have h8 : ev (.tmp 42) = .bool true := hgd
                rw [h9] at h8
                exact Value.bool.inj h8
              obtain ⟨p0, p1, p2, p3⟩ := HLW.out.pc
              rw [eB] at p0
              rw [HE1.out] at p1
              have q1 : ev (.tmp 45) = _ := hpre 13 (by decide) hT
              clear hpre
              go_simp
              exact hK _ _ _ HR.out (fun _ _ _ _ h => h) (fun _ => rfl)
            · exact fun hne hh => absurd ((show ev (.tmp 42) = .bool g1 from hpre 10 (by decide)).trans (by rw [hh])) hne
            · have hT : g1 = true := by
                have h9 : ev (.tmp 42) = .bool g1 := hpre 10 (by decide)
                have h8 : ev (.tmp 42) = .bool true := hgd
                rw [h9] at h8
                exact Value.bool.inj h8
              clear hpre
              go_simp
              exact hK _ _ _ HR.out (fun _ _ _ _ h => h) (fun _ => rfl)
            · exact fun hne hh => absurd ((show ev (.tmp 42) = .bool g1 from hpre 10 (by decide)).trans (by rw [hh])) hne
            · have hT : g1 = true := by
                have h9 : ev (.tmp 42) = .bool g1 := hpre 10 (by decide)
                have h8 : ev (.tmp 42) = .bool true := hgd
                rw [h9] at h8
                exact Value.bool.inj h8
              have q1 : ev (.tmp 46) = _ := hpre 14 (by decide) hT
              have q2 : ev (.tmp 47) = _ := hpre 15 (by decide) hT
              clear hpre
              go_simp
              exact hK _ _ _ HR.out (fun _ _ _ _ h => h) (fun _ => rfl)
            · exact fun hne hh => absurd ((show ev (.tmp 42) = .bool g1 from hpre 10 (by decide)).trans (by rw [hh])) hne
            · have hT : g1 = true := by
                have h9 : ev (.tmp 42) = .bool g1 := hpre 10 (by decide)
                have h8 : ev (.tmp 42) = .bool true := hgd
                rw [h9] at h8
                exact Value.bool.inj h8
              have q1 : ev (.tmp 48) = _ := hpre 16 (by decide) hT
              clear hpre
              go_simp
              exact hK _ _ _ HR.out (fun _ _ _ _ h => h) (fun _ => rfl)
            · exact fun hne hh => absurd ((show ev (.tmp 42) = .bool g1 from hpre 10 (by decide)).trans (by rw [hh])) hne
            · have hT : g1 = true := by
                have h9 : ev (.tmp 42) = .bool g1 := hpre 10 (by decide)
                have h8 : ev (.tmp 42) = .bool true := hgd
                rw [h9] at h8
                exact Value.bool.inj h8
              obtain ⟨d0, d1, d2, d3, d4⟩ := DI.out W HR.out
              have q1 : ev (.tmp 49) = _ := hpre 17 (by decide) hT
              clear hpre
              go_simp
              exact hK _ _ _ HR.out (fun _ _ _ _ h => h) (fun _ => rfl)
            · exact fun hne hh => absurd ((show ev (.tmp 42) = .bool g1 from hpre 10 (by decide)).trans (by rw [hh])) hne
            · have hT : g1 = true := by
                have h9 : ev (.tmp 42) = .bool g1 := hpre 10 (by decide)
                have h8 : ev (.tmp 42) = .bool true := hgd
                rw [h9] at h8
                exact Value.bool.inj h8
              have q1 : ev (.tmp 43) = _ := hpre 11 (by decide) hT
              have q2 : ev (.tmp 44) = _ := hpre 12 (by decide) hT
              have q3 : ev (.tmp 50) = _ := hpre 18 (by decide) hT
              have C := Lib.hid (REi.out W HLW.out.plt HLW.out.stt)
              clear hpre
              go_simp
              refine C.out.mono ?_
              rintro e w5 ⟨g, rfl, hB, hg, hG⟩
              exact hK _ w5 γ (below_after hB (Nat.le_refl _) HR.out) (fun j u _ _ h => clPhi_kept hB j u h) (fun _ => ⟨g, rfl, hG⟩)
            · exact fun hne hh => absurd ((show ev (.tmp 42) = .bool g1 from hpre 10 (by decide)).trans (by rw [hh])) hne
            · have hT : g1 = true := by
                have h9 : ev (.tmp 42) = .bool g1 := hpre 10 (by decide)
                have h8 : ev (.tmp 42) = .bool true := hgd
                rw [h9] at h8
                exact Value.bool.inj h8
              clear hpre
              go_simp
              exact hK _ _ _ HR.out (fun _ _ _ _ h => h) (fun _ => rfl)
            · exact fun hne hh => absurd ((show ev (.tmp 42) = .bool g1 from hpre 10 (by decide)).trans (by rw [hh])) hne
            · have hT : g1 = true := by
                have h9 : ev (.tmp 42) = .bool g1 := hpre 10 (by decide)
                have h8 : ev (.tmp 42) = .bool true := hgd
                rw [h9] at h8
                exact Value.bool.inj h8
              obtain ⟨p0, p1, p2, p3⟩ := HLW.out.pc
              rw [eB] at p0
              rw [HE1.out] at p1
              have q1 : ev (.tmp 52) = _ := hpre 20 (by decide) hT
              clear hpre
              go_simp
              exact hK _ _ _ HR.out (fun _ _ _ _ h => h) (fun _ => rfl)
            · exact fun hne hh => absurd ((show ev (.tmp 42) = .bool g1 from hpre 10 (by decide)).trans (by rw [hh])) hne
            · have hT : g1 = true := by
                have h9 : ev (.tmp 42) = .bool g1 := hpre 10 (by decide)
                have h8 : ev (.tmp 42) = .bool true := hgd
                rw [h9] at h8
                exact Value.bool.inj h8
              clear hpre
              go_simp
              exact hK _ _ _ HR.out (fun _ _ _ _ h => h) (fun _ => rfl)
            · exact fun hne hh => absurd ((show ev (.tmp 42) = .bool g1 from hpre 10 (by decide)).trans (by rw [hh])) hne
            · have hT : g1 = true := by
                have h9 : ev (.tmp 42) = .bool g1 := hpre 10 (by decide)
                have h8 : ev (.tmp 42) = .bool true := hgd
                rw [h9] at h8
                exact Value.bool.inj h8
              have q1 : ev (.tmp 53) = _ := hpre 21 (by decide) hT
              have q2 : ev (.tmp 54) = _ := hpre 22 (by decide) hT
              clear hpre
              go_simp
              exact hK _ _ _ HR.out (fun _ _ _ _ h => h) (fun _ => rfl)
            · exact fun hne hh => absurd ((show ev (.tmp 42) = .bool g1 from hpre 10 (by decide)).trans (by rw [hh])) hne
            · have hT : g1 = true := by
                have h9 : ev (.tmp 42) = .bool g1 := hpre 10 (by decide)
                have h8 : ev (.tmp 42) = .bool true := hgd
                rw [h9] at h8
                exact Value.bool.inj h8
              have q1 : ev (.tmp 55) = _ := hpre 23 (by decide) hT
              clear hpre
              go_simp
              exact hK _ _ _ HR.out (fun _ _ _ _ h => h) (fun _ => rfl)
            · exact fun hne hh => absurd ((show ev (.tmp 42) = .bool g1 from hpre 10 (by decide)).trans (by rw [hh])) hne
            · have hT : g1 = true := by
                have h9 : ev (.tmp 42) = .bool g1 := hpre 10 (by decide)
                have h8 : ev (.tmp 42) = .bool true := hgd
                rw [h9] at h8
                exact Value.bool.inj h8
              obtain ⟨d0, d1, d2, d3, d4⟩ := DK.out W HR.out
              have q1 : ev (.tmp 56) = _ := hpre 24 (by decide) hT
              clear hpre
              go_simp
              exact hK _ _ _ HR.out (fun _ _ _ _ h => h) (fun _ => rfl)
            · exact fun hne hh => absurd ((show ev (.tmp 42) = .bool g1 from hpre 10 (by decide)).trans (by rw [hh])) hne
            · have hT : g1 = true := by
                have h9 : ev (.tmp 42) = .bool g1 := hpre 10 (by decide)
                have h8 : ev (.tmp 42) = .bool true := hgd
                rw [h9] at h8
                exact Value.bool.inj h8
              obtain ⟨g, q1, hG⟩ := hpre 19 (by decide) hT
              replace q1 : ev (.tmp 51) = _ := q1
              have q2 : ev (.tmp 57) = _ := hpre 25 (by decide) hT
              have HGG := Lib.hid hG
              clear hpre hG
              go_simp
              exact hK _ _ _ HR.out (fun _ _ _ _ h => h) (fun _ => ⟨g, rfl, HGG.out⟩)
            · exact fun hne hh => absurd ((show ev (.tmp 42) = .bool g1 from hpre 10 (by decide)).trans (by rw [hh])) hne
            · have hT : g1 = true := by
                have h9 : ev (.tmp 42) = .bool g1 := hpre 10 (by decide)
                have h8 : ev (.tmp 42) = .bool true := hgd
                rw [h9] at h8
                exact Value.bool.inj h8
              obtain ⟨g, q1, hG⟩ := hpre 26 (by decide) hT
              replace q1 : ev (.tmp 58) = _ := q1
              have Z : W.cell? ⟨g, ck, none⟩ = some (.bool m) := by have h := hG.cell (getElem?_mk (V := Rl) (i := ck) (by omega)); rwa [HM.out] at h
              clear hpre hG
              go_simp
              exact hK _ _ _ HR.out (fun _ _ _ _ h => h) (fun _ => rfl)
            · exact fun hne hh => absurd ((show ev (.tmp 42) = .bool g1 from hpre 10 (by decide)).trans (by rw [hh])) hne
            · have q1 : ev (.tmp 42) = _ := hpre 10 (by decide)
              cases g1
              · clear hpre
                go_simp
                exact hK _ _ _ HR.out (fun _ _ _ _ h => h) (by show _ = Value.bool g2; rw [← HG2.out]; rfl)
              · have q2 : ev (.tmp 59) = _ := hpre 27 (by decide) rfl
                clear hpre
                go_simp
                exact hK _ _ _ HR.out (fun _ _ _ _ h => h) (by show _ = Value.bool g2; rw [← HG2.out]; rfl)
            · trivial
            · have q1 : ev (.tmp 60) = _ := hpre 28 (by decide)
              clear hpre
              go_simp
              exact hK _ _ _ HR.out (fun _ _ _ _ h => h) rfl
            · trivial
            · have hT : g2 = true := by
                have h9 : ev (.tmp 61) = .bool g2 := hpre 29 (by decide)
                have h8 : ev (.tmp 61) = .bool true := hgd
                rw [h9] at h8
                exact Value.bool.inj h8
              clear hpre
              go_simp
              exact hK _ _ _ HR.out (fun _ _ _ _ h => h) (fun _ => rfl)
            · exact fun hne hh => absurd ((show ev (.tmp 61) = .bool g2 from hpre 29 (by decide)).trans (by rw [hh])) hne
            · have hT : g2 = true := by
                have h9 : ev (.tmp 61) = .bool g2 := hpre 29 (by decide)
                have h8 : ev (.tmp 61) = .bool true := hgd
                rw [h9] at h8
                exact Value.bool.inj h8
              obtain ⟨p0, p1, p2, p3⟩ := HLW.out.pc
              rw [eB] at p0
              rw [HE1.out] at p1
              have q1 : ev (.tmp 62) = _ := hpre 30 (by decide) hT
              clear hpre
              go_simp
              exact hK _ _ _ HR.out (fun _ _ _ _ h => h) (fun _ => rfl)
            · exact fun hne hh => absurd ((show ev (.tmp 61) = .bool g2 from hpre 29 (by decide)).trans (by rw [hh])) hne
            · have hT : g2 = true := by
                have h9 : ev (.tmp 61) = .bool g2 := hpre 29 (by decide)
                have h8 : ev (.tmp 61) = .bool true := hgd
                rw [h9] at h8
                exact Value.bool.inj h8
              clear hpre
              go_simp
              exact hK _ _ _ HR.out (fun _ _ _ _ h => h) (fun _ => rfl)
            · exact fun hne hh => absurd ((show ev (.tmp 61) = .bool g2 from hpre 29 (by decide)).trans (by rw [hh])) hne
            · have hT : g2 = true := by
                have h9 : ev (.tmp 61) = .bool g2 := hpre 29 (by decide)
                have h8 : ev (.tmp 61) = .bool true := hgd
                rw [h9] at h8
                exact Value.bool.inj h8
              have q1 : ev (.tmp 63) = _ := hpre 31 (by decide) hT
              have q2 : ev (.tmp 64) = _ := hpre 32 (by decide) hT
              clear hpre
              go_simp
              exact hK _ _ _ HR.out (fun _ _ _ _ h => h) (fun _ => rfl)
            · exact fun hne hh => absurd ((show ev (.tmp 61) = .bool g2 from hpre 29 (by decide)).trans (by rw [hh])) hne
            · have hT : g2 = true := by
                have h9 : ev (.tmp 61) = .bool g2 := hpre 29 (by decide)
                have h8 : ev (.tmp 61) = .bool true := hgd
                rw [h9] at h8
                exact Value.bool.inj h8
              obtain ⟨d0, d1, d2, d3, d4⟩ := DI.out W HR.out
              have q1 : ev (.tmp 65) = _ := hpre 33 (by decide) hT
              clear hpre
              go_simp
              exact hK _ _ _ HR.out (fun _ _ _ _ h => h) (fun _ => rfl)
            · exact fun hne hh => absurd ((show ev (.tmp 61) = .bool g2 from hpre 29 (by decide)).trans (by rw [hh])) hne
            · have hT : g2 = true := by
                have h9 : ev (.tmp 61) = .bool g2 := hpre 29 (by decide)
                have h8 : ev (.tmp 61) = .bool true := hgd
                rw [h9] at h8
                exact Value.bool.inj h8
              clear hpre
              go_simp
              exact hK _ _ _ HR.out (fun _ _ _ _ h => h) (fun _ => rfl)
            · exact fun hne hh => absurd ((show ev (.tmp 61) = .bool g2 from hpre 29 (by decide)).trans (by rw [hh])) hne
            · have hT : g2 = true := by
                have h9 : ev (.tmp 61) = .bool g2 := hpre 29 (by decide)
                have h8 : ev (.tmp 61) = .bool true := hgd
                rw [h9] at h8
                exact Value.bool.inj h8
              obtain ⟨p0, p1, p2, p3⟩ := HLW.out.pc
              rw [eB] at p0
              rw [HE1.out] at p1
              have q1 : ev (.tmp 67) = _ := hpre 35 (by decide) hT
              clear hpre
              go_simp
              exact hK _ _ _ HR.out (fun _ _ _ _ h => h) (fun _ => rfl)
            · exact fun hne hh => absurd ((show ev (.tmp 61) = .bool g2 from hpre 29 (by decide)).trans (by rw [hh])) hne
            · have hT : g2 = true := by
                have h9 : ev (.tmp 61) = .bool g2 := hpre 29 (by decide)
                have h8 : ev (.tmp 61) = .bool true := hgd
                rw [h9] at h8
                exact Value.bool.inj h8
              clear hpre
              go_simp
              exact hK _ _ _ HR.out (fun _ _ _ _ h => h) (fun _ => rfl)
            · exact fun hne hh => absurd ((show ev (.tmp 61) = .bool g2 from hpre 29 (by decide)).trans (by rw [hh])) hne
            · have hT : g2 = true := by
                have h9 : ev (.tmp 61) = .bool g2 := hpre 29 (by decide)
                have h8 : ev (.tmp 61) = .bool true := hgd
                rw [h9] at h8
                exact Value.bool.inj h8
              have q1 : ev (.tmp 68) = _ := hpre 36 (by decide) hT
              have q2 : ev (.tmp 69) = _ := hpre 37 (by decide) hT
              clear hpre
              go_simp
              exact hK _ _ _ HR.out (fun _ _ _ _ h => h) (fun _ => rfl)
            · exact fun hne hh => absurd ((show ev (.tmp 61) = .bool g2 from hpre 29 (by decide)).trans (by rw [hh])) hne
            · have hT : g2 = true := by
                have h9 : ev (.tmp 61) = .bool g2 := hpre 29 (by decide)
                have h8 : ev (.tmp 61) = .bool true := hgd
                rw [h9] at h8
                exact Value.bool.inj h8
              obtain ⟨d0, d1, d2, d3, d4⟩ := DK.out W HR.out
              have q1 : ev (.tmp 70) = _ := hpre 38 (by decide) hT
              clear hpre
              go_simp
              exact hK _ _ _ HR.out (fun _ _ _ _ h => h) (fun _ => rfl)
            · exact fun hne hh => absurd ((show ev (.tmp 61) = .bool g2 from hpre 29 (by decide)).trans (by rw [hh])) hne
            · have hT : g2 = true := by
                have h9 : ev (.tmp 61) = .bool g2 := hpre 29 (by decide)
                have h8 : ev (.tmp 61) = .bool true := hgd
                rw [h9] at h8
                exact Value.bool.inj h8
              have q1 : ev (.tmp 66) = _ := hpre 34 (by decide) hT
              have q2 : ev (.tmp 71) = _ := hpre 39 (by decide) hT
              have C := Lib.hid (CL.out W)
              clear hpre
              go_simp
              refine C.out.mono ?_
              rintro e w5 ⟨rfl, hB⟩
              exact hK _ w5 γ (below_after hB (Nat.le_refl _) HR.out) (fun j u _ _ h => clPhi_kept hB j u h) (fun _ => rfl)
            · exact fun hne hh => absurd ((show ev (.tmp 61) = .bool g2 from hpre 29 (by decide)).trans (by rw [hh])) hne
            · have q1 : ev (.tmp 61) = _ := hpre 29 (by decide)
              cases g2
              · clear hpre
                go_simp
                exact hK _ _ _ HR.out (fun _ _ _ _ h => h) (by show _ = Value.bool rr; rw [← HRR.out]; rfl)
              · have q2 : ev (.tmp 72) = _ := hpre 40 (by decide) rfl
                clear hpre
                go_simp
                exact hK _ _ _ HR.out (fun _ _ _ _ h => h) (by show _ = Value.bool rr; rw [← HRR.out]; rfl)
            · trivial
          · intro vs w' γ hvl hR hφ
            have hres := hφ 41 (by decide)
            have HR := Lib.hid hR
            clear hφ hR
            replace hvl : vs.length = 42 := hvl
            rcases vs with _ | ⟨z0, vs⟩
            · simp at hvl
            rcases vs with _ | ⟨z1, vs⟩
            · simp at hvl
            rcases vs with _ | ⟨z2, vs⟩
            · simp at hvl
            rcases vs with _ | ⟨z3, vs⟩
            · simp at hvl
            rcases vs with _ | ⟨z4, vs⟩
            · simp at hvl
            rcases vs with _ | ⟨z5, vs⟩
            · simp at hvl
            rcases vs with _ | ⟨z6, vs⟩
            · simp at hvl
            rcases vs with _ | ⟨z7, vs⟩
            · simp at hvl
            rcases vs with _ | ⟨z8, vs⟩
            · simp at hvl
            rcases vs with _ | ⟨z9, vs⟩
            · simp at hvl
            rcases vs with _ | ⟨z10, vs⟩
            · simp at hvl
            rcases vs with _ | ⟨z11, vs⟩
            · simp at hvl
            rcases vs with _ | ⟨z12, vs⟩
            · simp at hvl
            rcases vs with _ | ⟨z13, vs⟩
            · simp at hvl
            rcases vs with _ | ⟨z14, vs⟩
            · simp at hvl
            rcases vs with _ | ⟨z15, vs⟩
            · simp at hvl
            rcases vs with _ | ⟨z16, vs⟩
            · simp at hvl
            rcases vs with _ | ⟨z17, vs⟩
            · simp at hvl
            rcases vs with _ | ⟨z18, vs⟩
            · simp at hvl
            rcases vs with _ | ⟨z19, vs⟩
            · simp at hvl
            rcases vs with _ | ⟨z20, vs⟩
            · simp at hvl
            rcases vs with _ | ⟨z21, vs⟩
            · simp at hvl
            rcases vs with _ | ⟨z22, vs⟩
            · simp at hvl
            rcases vs with _ | ⟨z23, vs⟩
            · simp at hvl
            rcases vs with _ | ⟨z24, vs⟩
            · simp at hvl
            rcases vs with _ | ⟨z25, vs⟩
            · simp at hvl
            rcases vs with _ | ⟨z26, vs⟩
            · simp at hvl
            rcases vs with _ | ⟨z27, vs⟩
            · simp at hvl
            rcases vs with _ | ⟨z28, vs⟩
            · simp at hvl
            rcases vs with _ | ⟨z29, vs⟩
            · simp at hvl
            rcases vs with _ | ⟨z30, vs⟩
            · simp at hvl
            rcases vs with _ | ⟨z31, vs⟩
            · simp at hvl
            rcases vs with _ | ⟨z32, vs⟩
            · simp at hvl
            rcases vs with _ | ⟨z33, vs⟩
            · simp at hvl
            rcases vs with _ | ⟨z34, vs⟩
            · simp at hvl
            rcases vs with _ | ⟨z35, vs⟩
            · simp at hvl
            rcases vs with _ | ⟨z36, vs⟩
            · simp at hvl
            rcases vs with _ | ⟨z37, vs⟩
            · simp at hvl
            rcases vs with _ | ⟨z38, vs⟩
            · simp at hvl
            rcases vs with _ | ⟨z39, vs⟩
            · simp at hvl
            rcases vs with _ | ⟨z40, vs⟩
            · simp at hvl
            rcases vs with _ | ⟨z41, vs⟩
            · simp at hvl
            rcases vs with _ | ⟨_, vs⟩
            case cons => simp at hvl
            replace hres : z41 = .bool rr := hres
            subst hres
            simp [putAll]
            have HJ2 : Hid (Below w1.heap.size w1 w' ∧ w'.ownsRow w1.heap.size 79 2 un (xs ++ rclRow s p.srcs L p.ln n k).length (pairCells (xs ++ rclRow s p.srcs L p.ln n k))) := ⟨below_after HR.out (Nat.le_refl _) HJ.out.1, HJ.out.2.kept (grown_of_below HR.out) (by by_cases hu : un.ownBlock = none; exact .inl hu; exact .inr hu)⟩
            obtain ⟨ys, hys⟩ : ∃ ys, xs ++ rclRow s p.srcs L p.ln n k = ys := ⟨_, rfl⟩
            have HYS := Lib.hid hys
            rw [hys] at HJ2
            have hyl2 : ys.length ≤ 600 := by rw [← hys, List.length_append]; omega
            clear HJ HLr hys p0 p1 p2 p3
            have zw : w1.heap.size ≤ w'.heap.size := HJ2.out.1.size
            cases rr
            · go_wp2
              go_roundw
              case rel => exact ⟨k + 1, by omega, by omega, by go_num, by rw [HSU.out]; simp only [Bool.false_eq_true, if_false, List.append_nil]; rw [HYS.out]; exact HJ2⟩
              case measure => simp [intOf]; omega
            · have HO := Lib.hid HJ2.out.2
              go_wp2_with (at_builtin; refine wpList_append_own_at _ rfl (.tmp 74) (.tmp 78) 51 rfl w1.heap.size 79 i0 (.agg #[.int .i64 0, .int .i64 0]) 2 16 Tryz.underlying51 hi hz0 hz1 hz2 rfl (by decide) _ ys.length _ rfl (HO.out.alloc _) ⟨w'.heap.size, 0, none⟩ 1 1 (encP ((n : Int), (k : Int))) rfl rfl ?_ ?_ ?_ ?_ ?_ ?_)
              case _ =>
                intro i z hz
                match i, hz with
                | 0, hz =>
                  simp only [encP, List.getElem?_cons_zero, Option.some.injEq] at hz
                  subst hz
                  simp [Addr.add, go_sem]
                | 1, hz =>
                  simp only [encP, List.getElem?_cons_succ, List.getElem?_cons_zero, Option.some.injEq] at hz
                  subst hz
                  simp [Addr.add, go_sem]
              case _ =>
                intro z hz
                simp only [encP, List.mem_cons, List.mem_nil_iff, or_false] at hz
                rcases hz with rfl | rfl <;> rfl
              case _ => simp only [maxLen]; omega
              case _ => omega
              case _ => first | omega | (simp; omega)
              intro v' w7 hown hg7 _ _
              have HB7 := Lib.hid ((HJ2.out.1.alloc zw _).grown hg7 (by simp; omega) (fun j e => (HO.out.lt j e).1))
              have HO7 := Lib.hid hown
              clear hown hg7 HJ2 HO
              go_wp2
              go_roundw
              case rel =>
                refine ⟨k + 1, by omega, by omega, by go_num, HB7.out, ?_⟩
                rw [HSU.out]
                simp only [if_true]
                rw [← List.append_assoc, HYS.out, List.length_append, pairCells_append]
                exact HO7.out
              case measure => simp [intOf]; omega
        · obtain rfl : p.sn = k := by omega
          go_wp2
          go_roundw
          case rel => exact ⟨n + 1, by omega, by go_num, by rw [rclTo_succ, HXS.out]; exact HJ⟩
          case measure => simp [intOf]; omega
    · obtain rfl : p.sn = n := by omega
      obtain ⟨A, c, rfl⟩ := row_slice HJ.out.2
      have HO := Lib.hid HJ.out
      clear HJ
      go_wp2
      exact bodyPost_ret (results_tmp2 rfl _ _ _) rfl ⟨A, c, rfl, below_after HO.out.1 (Nat.le_refl _) HLO1.out.low, rd_pairs HO.out.2⟩
end Go.Proofs.YtnngdcidopaabaaGreatDoor
