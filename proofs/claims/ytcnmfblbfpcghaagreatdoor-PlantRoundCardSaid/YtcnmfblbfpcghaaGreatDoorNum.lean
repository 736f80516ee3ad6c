/- plant.must, plant.number, plant.numbers. -/
import Derived.Test.YtcnmfblbfpcghaaGreatDoorStr
import Derived.Test.YtcnmfblbfpcghaaGreatDoorShelfT
import Derived.Test.YtcnmfblbfpcghaaGreatDoorCutP
import Derived.WalkLawsBesides
import Derived.Test.YtcnmfblbfpcghaaGreatDoorRoot
import Derived.Test.YtcnmfblbfpcghaaGreatDoorHomes
import Derived.Test.YtcnmfblbfpcghaaGreatDoorWords
import Derived.Test.YtcnmfblbfpcghaaGreatDoorFmtA
import Derived.Maps.RangeRun

set_option linter.unusedSimpArgs false
set_option linter.unusedVariables false
namespace Go.Proofs.YtcnmfblbfpcghaaGreatDoor
open Go.RowKit Go.Shelf

/-- How the reading of a text ends that has not the form. -/
abbrev formP : Ending := .panicked [{ v := .iface 35 (.int .i64 3), recovered := false }]
/-- What lies in package-level variables: the table of powers, a bound, an error. -/
structure Tabs (w : World) : Prop where
  pow : Pow w
  max : ∃ m, w.cell? ⟨0, 0, none⟩ = some (.int .i64 m)
  err : ∃ ev, w.cell? ⟨6, 0, none⟩ = some ev ∧ (ev = .nilIface ∨ ∃ te pe, ev = .iface te pe)
theorem Tabs.next {w w' : World} (h : Tabs w) (hb : Below w.heap.size w w') : Tabs w' := by
  refine ⟨h.pow.below hb, ?_, ?_⟩
  · obtain ⟨m, hm⟩ := h.max
    exact ⟨m, (hb.cell (Lib.lt_of_cell hm)).trans hm⟩
  · obtain ⟨ev, hm, he⟩ := h.err
    exact ⟨ev, (hb.cell (Lib.lt_of_cell hm)).trans hm, he⟩
theorem Tabs.from_ {w w' : World} {n : Nat} (h : Tabs w) (hb : Below n w w') (hn : w.heap.size ≤ n) : Tabs w' := h.next (hb.mono hn)
theorem must_any (b : Bool) (w : World) : Calls Tryz.prog 71 #[.bool b] w fun e w' => e = (if b then .returned (.tuple #[]) else formP) ∧ w = w' := by
  cases b
  · go_enter Tryz.func71, Tryz.ntmps71
    go_wp2
    exact ⟨rfl, rfl, rfl⟩
  · go_enter Tryz.func71, Tryz.ntmps71
    go_wp2
    go_end0
    exact ⟨rfl, rfl⟩
theorem must_yes (w : World) : Calls Tryz.prog 71 #[.bool true] w fun e w' => e = .returned (.tuple #[]) ∧ w = w' := must_any true w
theorem must_no (w : World) : Calls Tryz.prog 71 #[.bool false] w fun e w' => e = formP ∧ w = w' := must_any false w
theorem trim_any (ws : List UInt8) (w : World) : Calls Tryz.prog 169 #[.string (ba ws), .string ⟨#[45]⟩] w fun e w' => e = .returned (.string (ba (Lib.trimPrefix ws [45]))) ∧ w = w' :=
  (strings_TrimPrefix (ba ws) ⟨#[45]⟩ w).mono fun _ _ h => ⟨h.1, h.2.symm⟩
theorem ba_len (a : List UInt8) : (ba a).size = a.length := by
  show a.toArray.size = _
  simp
theorem atoi_yes (ws : List UInt8) (n : Int) (w : World) (hl : ws.length ≤ 18) (h : Lib.atoi ws = some n) : Calls Tryz.prog 170 #[.string (ba ws)] w fun e w' => e = .returned (.tuple #[.int .i64 n, .nilIface]) ∧ Below w.heap.size w w' :=
  (strconv_Atoi (ba ws) n (by rw [ba_len]; exact hl) h w).mono fun _ _ ⟨h1, t, h2⟩ => ⟨h1, by rw [h2]; exact Lib.bytesWorld_below _ _ _⟩
theorem atoi_no (ws : List UInt8) (w : World) (hl : ws.length ≤ 18) (h : Lib.atoi ws = none) (hT : Tabs w) : Calls Tryz.prog 170 #[.string (ba ws)] w fun e w' => ∃ t v, e = .returned (.tuple #[.int .i64 0, .iface t v]) ∧ Below w.heap.size w w' := by
  obtain ⟨ev, hv, he⟩ := hT.err
  exact (strconv_Atoi_err (ba ws) (by rw [ba_len]; exact hl) h ev w hv he).mono fun _ _ ⟨N, h1, _, _, h2⟩ => ⟨_, _, h1, h2⟩
theorem ba_inj {a b : List UInt8} (h : ba a = ba b) : a = b := by
  have := congrArg (fun x : ByteArray => x.data.toList) h
  exact this
theorem ba_eq (a b : List UInt8) : ((ba a).toList == (ba b).toList) = decide (a = b) := by
  rw [Lib.toList_data, Lib.toList_data]
  show (a == b) = _
  by_cases h : a = b
  · subst h
    simp
  · rw [decide_eq_false h, beq_eq_false_iff_ne]
    exact h
set_option maxRecDepth 100000 in
set_option maxHeartbeats 2000000 in
theorem number_any (ws : List UInt8) (w : World) (hT : Tabs w) (hl : ws.length ≤ 200000) :
    Calls Tryz.prog 155 #[.string (ba ws)] w fun e w' => e = (match numL ws with | some n => .returned (.int .i64 n) | none => formP) ∧ Below w.heap.size w w' := by
  have HT := Lib.hid hT
  have TR := Lib.hid (trim_any ws)
  have MY := Lib.hid must_yes
  have MN := Lib.hid must_no
  clear hT
  by_cases h9 : (Lib.trimPrefix ws [45]).length ≤ 9
  · have h18 : ws.length ≤ 18 := by
      unfold Lib.trimPrefix at h9
      split at h9
      · simp at h9; omega
      · omega
    have hlen : decide (((ba (Lib.trimPrefix ws [45])).size : Int) ≤ 9) = true := by rw [ba_len]; simp; omega
    cases ha : Lib.atoi ws with
    | none =>
      have AN := Lib.hid (fun W hT => atoi_no ws W h18 ha hT)
      have hn : numL ws = none := by unfold numL; rw [if_pos h9, ha]
      rw [hn]
      clear ha hn
      go_enter Tryz.func155, Tryz.ntmps155
      go_wp2_with fail
      refine (TR.out _).mono ?_
      rintro e w1 ⟨rfl, rfl⟩
      go_wp2_with fail
      refine (MY.out _).mono ?_
      rintro e w1 ⟨rfl, rfl⟩
      go_wp2_with fail
      refine (AN.out _ HT.out).mono ?_
      rintro e w2 ⟨t, v, rfl, hB⟩
      go_wp2_with fail
      refine (MN.out _).mono ?_
      rintro e w3 ⟨rfl, rfl⟩
      go_wp2_with fail
      exact ⟨rfl, rfl, hB⟩
    | some n =>
      have hn64 := Lib.atoi_bound ha h18
      have AY := Lib.hid (fun W => atoi_yes ws n W h18 ha)
      have IT := Lib.hid (fun W hP => itoa_any n (by omega) (by omega) W hP)
      by_cases hw : Lib.itoa n = ws
      · have hq : ((ba (Lib.itoa n)).toList == (ba ws).toList) = true := by rw [ba_eq, decide_eq_true hw]
        have hn : numL ws = some n := by
          unfold numL
          rw [if_pos h9, ha]
          simp only [if_pos hw]
        rw [hn]
        clear ha hn hn64 hw
        go_enter Tryz.func155, Tryz.ntmps155
        go_wp2_with fail
        refine (TR.out _).mono ?_
        rintro e w1 ⟨rfl, rfl⟩
        go_wp2_with fail
        refine (MY.out _).mono ?_
        rintro e w1 ⟨rfl, rfl⟩
        go_wp2_with fail
        refine (AY.out _).mono ?_
        rintro e w2 ⟨rfl, hB⟩
        go_wp2_with fail
        refine (IT.out _ (HT.out.next hB).pow).mono ?_
        rintro e w3 ⟨rfl, hB3⟩
        have hBt := hB.trans (hB3.mono hB.size)
        go_wp2_with fail
        refine (MY.out _).mono ?_
        rintro e w4 ⟨rfl, rfl⟩
        go_wp2
        go_ret
        exact ⟨rfl, hBt⟩
      · have hq : ((ba (Lib.itoa n)).toList == (ba ws).toList) = false := by rw [ba_eq, decide_eq_false hw]
        have hn : numL ws = none := by
          unfold numL
          rw [if_pos h9, ha]
          simp only [if_neg hw]
        rw [hn]
        clear ha hn hn64 hw
        go_enter Tryz.func155, Tryz.ntmps155
        go_wp2_with fail
        refine (TR.out _).mono ?_
        rintro e w1 ⟨rfl, rfl⟩
        go_wp2_with fail
        refine (MY.out _).mono ?_
        rintro e w1 ⟨rfl, rfl⟩
        go_wp2_with fail
        refine (AY.out _).mono ?_
        rintro e w2 ⟨rfl, hB⟩
        go_wp2_with fail
        refine (IT.out _ (HT.out.next hB).pow).mono ?_
        rintro e w3 ⟨rfl, hB3⟩
        have hBt := hB.trans (hB3.mono hB.size)
        go_wp2_with fail
        refine (MN.out _).mono ?_
        rintro e w4 ⟨rfl, rfl⟩
        go_wp2_with fail
        exact ⟨rfl, rfl, hBt⟩
  · have hlen : decide (((ba (Lib.trimPrefix ws [45])).size : Int) ≤ 9) = false := by rw [ba_len]; simp; omega
    have hn : numL ws = none := by unfold numL; rw [if_neg h9]
    rw [hn]
    clear hn
    go_enter Tryz.func155, Tryz.ntmps155
    go_wp2_with fail
    refine (TR.out _).mono ?_
    rintro e w1 ⟨rfl, rfl⟩
    go_wp2_with fail
    refine (MN.out _).mono ?_
    rintro e w1 ⟨rfl, rfl⟩
    go_wp2_with fail
    exact ⟨rfl, rfl, Below.refl _ _⟩
end Go.Proofs.YtcnmfblbfpcghaaGreatDoor

/- plant.numbers. -/

set_option linter.unusedSimpArgs false
set_option linter.unusedVariables false
namespace Go.Proofs.YtcnmfblbfpcghaaGreatDoor
open Go.RowKit Go.Shelf

def encS (x : List UInt8) : List Value := [.string (ba x)]
theorem cellS {w : World} {b o k : Nat} {x : List UInt8} (h : ∀ j u, (encS x)[j]? = some u → w.cell? ⟨b, o + k * 1 + j, none⟩ = some u) : w.cell? ⟨b, o + k, none⟩ = some (.string (ba x)) := by simpa using h 0 _ rfl
/-- Some numbers, and zeros behind them. -/
def padI (a : List Int) (n : Nat) : List Int := a ++ List.replicate (n - a.length) 0
theorem padI_set (a : List Int) (n : Nat) (x : Int) (h : a.length < n) : (padI a n).set a.length x = padI (a ++ [x]) n := by
  unfold padI
  obtain ⟨m, hm⟩ : ∃ m, n - a.length = m + 1 := ⟨n - a.length - 1, by omega⟩
  rw [List.set_append_right _ _ (Nat.le_refl _), Nat.sub_self, hm, List.replicate_succ, List.set_cons_zero, List.append_assoc, List.length_append, List.length_singleton]
  rw [show n - (a.length + 1) = m by omega]
  rfl
theorem padI_full (a : List Int) (n : Nat) (h : a.length = n) : padI a n = a := by
  unfold padI
  rw [h, Nat.sub_self]
  simp
theorem padI_zero (n : Nat) : List.replicate n (0 : Int) = padI [] n := by
  unfold padI
  simp
/-- What numbers reads of so many words. -/
def numsL (n k : Nat) (l : List (List UInt8)) : Option (List Int) := if n = k then numAll l else none
def NumsEnd (w w' : World) (k : Nat) (e : Ending) : Option (List Int) → Prop
  | some a => ∃ g, e = .returned (.slice (some ⟨g, 0, none⟩) k k) ∧ w.heap.size ≤ g ∧ IntB w' g a
  | none => e = formP
set_option maxRecDepth 100000 in
set_option maxHeartbeats 2000000 in
theorem numbers_any (A : Option Addr) (n c k : Nat) (l : List (List UInt8)) (w : World) (hl : Rd w w.heap.size 1 encS A n l) (hk : k ≤ 100) (hw : ∀ x ∈ l, x.length ≤ 200000) (hT : Tabs w) :
    Calls Tryz.prog 138 #[.slice A n c, .int .i64 k] w fun e w' => Below w.heap.size w w' ∧ NumsEnd w w' k e (numsL n k l) := by
  have HL := Lib.hid hl
  have HT := Lib.hid hT
  have HW := Lib.hid hw
  have NU := Lib.hid (fun x W hT hl => number_any x W hT hl)
  have MY := Lib.hid must_yes
  have MN := Lib.hid must_no
  have hlen := hl.1
  clear hl hw hT
  by_cases hnk : n = k
  · subst hnk
    have hd : decide ((n : Int) = n) = true := by simp
    go_enter Tryz.func138, Tryz.ntmps138
    go_wp2_with fail
    refine (MY.out _).mono ?_
    rintro e w1 ⟨rfl, rfl⟩
    go_wp2
    rw [show ∀ V, Sem.run Tryz.prog (Instr.makeSlice 56 (.int .i64 n) (.int .i64 n)) V = _ from run_makeInts n (by omega), nums_zero, padI_zero]
    go_wp2
    go_loopw [17] (fun i wr => ∃ (j : Nat) (a : List Int), j ≤ n ∧ i = .int .i64 j ∧ a.length = j ∧ Below w.heap.size w wr ∧ Hid (numAll (l.take j) = some a) ∧ Hid (IntB wr w.heap.size (padI a n)))  (fun i _ => n - (intOf i).toNat)
    case atStart => exact ⟨0, [], by omega, rfl, rfl, by (repeat' (first | (with_reducible exact Below.refl _ _) | (with_reducible assumption) | (with_reducible refine below_drewN ?_ _) | (with_reducible refine below_after (by assumption) ?_ ?_) | (with_reducible refine Below.drew ?_) | (with_reducible refine Below.alloc ?_ ?_ _) | (with_reducible refine Below.setCell ?_ ?_ _) | omega | (simp; omega) | (simp; done))), Lib.hid rfl, Lib.hid (heap_alloc_new w _)⟩
    case round =>
      obtain ⟨j, a, hj, rfl, haj, hB, hN, hI⟩ := hrel
      have hz' := hB.size
      have hgl := hI.out.lt
      by_cases hlt : j < n
      · obtain ⟨b, off, x, rfl, hb, hx, hcx⟩ := (HL.out.below hB).at_ hlt
        have c0 := cellS hcx
        have HX := Lib.hid hx
        have hx2 := HW.out x (List.mem_of_getElem? hx)
        have NX := Lib.hid (fun W hT => NU.out x W hT hx2)
        have hsnoc : numAll (l.take (j + 1)) = (numL x).map fun z => a ++ [z] := by
          rw [List.take_add_one, hx]
          show numAll (l.take j ++ [x]) = _
          rw [numAll_snoc, hN.out]
          rfl
        have hbad : numL x = none → numAll l = none := fun h => numAll_none hx h
        have hk0 : (0 : Int) ≤ (j : Int) := by omega
        have hkn : (j : Int) < (n : Int) := by omega
        clear hx hcx
        cases hnx : numL x with
        | none =>
          rw [hnx] at NX hsnoc
          have hbad' := Lib.hid (hbad hnx)
          clear hbad hsnoc
          go_wp2_with fail
          refine (NX.out _ (HT.out.from_ hB (Nat.le_refl _))).mono ?_
          rintro e w3 ⟨rfl, hB3⟩
          go_wp2_with fail
          refine ⟨rfl, hB.trans (hB3.mono hB.size), ?_⟩
          unfold numsL
          rw [if_pos rfl, hbad'.out]
          exact rfl
        | some z =>
          rw [hnx] at NX hsnoc
          clear hbad
          have HS := Lib.hid hsnoc
          clear hsnoc
          go_wp2_with fail
          refine (NX.out _ (HT.out.from_ hB (Nat.le_refl _))).mono ?_
          rintro e w3 ⟨rfl, hB3⟩
          have hBt := hB.trans (hB3.mono hB.size)
          have HI3 := Lib.hid (Blk.below (show Blk wr w.heap.size _ _ from hI.out) hB3 hgl)
          have fz := Blk.frozen HI3.out j
          have c1 : w3.cell? ⟨w.heap.size, j, none⟩ = some (.int .i64 0) := IntB.cell HI3.out (by
            unfold padI
            rw [List.getElem?_append_right (by omega), haj, Nat.sub_self, List.getElem?_replicate, if_pos (by omega)])
          have hIn : Hid (IntB (w3.setCell ⟨w.heap.size, j, none⟩ (.int .i64 z)) w.heap.size (padI (a ++ [z]) n)) := by
            have h1 := IntB.set_ HI3.out j z
            rw [← haj] at h1 ⊢
            rw [padI_set a n z (by omega)] at h1
            exact Lib.hid h1
          go_wp2
          go_roundw
          case rel => exact ⟨j + 1, a ++ [z], by omega, by go_num, by simp [haj], by (repeat' (first | (with_reducible exact Below.refl _ _) | (with_reducible assumption) | (with_reducible refine below_drewN ?_ _) | (with_reducible refine below_after (by assumption) ?_ ?_) | (with_reducible refine Below.drew ?_) | (with_reducible refine Below.alloc ?_ ?_ _) | (with_reducible refine Below.setCell ?_ ?_ _) | omega | (simp; omega) | (simp; done))), Lib.hid (by rw [HS.out]; rfl), hIn⟩
          case measure => simp [intOf]; omega
      · obtain rfl : n = j := by omega
        have htk : l.take n = l := by rw [← hlen]; exact List.take_length
        have hr := hN.out
        rw [htk] at hr
        have hI2 := hI.out
        rw [padI_full a n haj] at hI2
        have HI2 := Lib.hid hI2
        have HR := Lib.hid hr
        clear hI2 hr hN hI
        go_wp2
        go_ret
        refine ⟨hB, ?_⟩
        unfold numsL
        rw [if_pos rfl, HR.out]
        exact ⟨_, rfl, Nat.le_refl _, HI2.out⟩
  · have hd : ((n : Int) == (k : Int)) = false := beq_eq_false_iff_ne.2 (by omega)
    go_enter Tryz.func138, Tryz.ntmps138
    go_wp2_with fail
    refine (MN.out _).mono ?_
    rintro e w1 ⟨rfl, rfl⟩
    go_wp2_with fail
    refine ⟨rfl, Below.refl _ _, ?_⟩
    unfold numsL
    rw [if_neg hnk]
    exact rfl
end Go.Proofs.YtcnmfblbfpcghaaGreatDoor

/- plant.turned: the kinds of words. -/

set_option linter.unusedSimpArgs false
set_option linter.unusedVariables false
namespace Go.Proofs.YtcnmfblbfpcghaaGreatDoor
open Go.RowKit Go.Shelf
open Go.ChangeMaps (setBlock)

/-- Every entry is a word of one of the kinds seen, and each kind seen has an entry. -/
structure KindsAre (wd : Int → List UInt8) (s : List Nat) (es : Array MapEntry) : Prop where
  all : ∀ e ∈ es.toList, ∃ i ∈ s, e.key = .string (ba (wd ((i : Int) + 1))) ∧ e.val = .int .i64 ((i : Int) + 1)
  each : ∀ i ∈ s, ∃ e ∈ es.toList, e.key = .string (ba (wd ((i : Int) + 1)))
theorem same_str (x y : ByteArray) : Instr.sameNow .string (.string x) (.string y) = some (x == y) := rfl
theorem find_miss {x : ByteArray} : ∀ (l : List MapEntry) (k : Nat), (∀ e ∈ l, ∃ y, e.key = .string y ∧ y ≠ x) → Instr.findNow .string (.string x) l k = some none := by
  intro l
  induction l with
  | nil => intro k _; rfl
  | cons e l ih =>
    intro k h
    obtain ⟨y, hy, hne⟩ := h e (List.mem_cons_self ..)
    have hb : (x == y) = false := by
      cases hc : x == y
      · rfl
      · exact absurd ((MapKept.bytes_beq _ _).1 hc).symm hne
    rw [Instr.findNow, hy, same_str, hb]
    exact ih _ fun z hz => h z (List.mem_cons_of_mem _ hz)
theorem find_hit {x : ByteArray} : ∀ (l : List MapEntry) (k : Nat), (∀ e ∈ l, ∃ y, e.key = .string y) → (∃ e ∈ l, e.key = .string x) → ∃ j e, e ∈ l ∧ e.key = .string x ∧ Instr.findNow .string (.string x) l k = some (some (j, e.val)) := by
  intro l
  induction l with
  | nil => intro k _ h; obtain ⟨e, he, _⟩ := h; cases he
  | cons e l ih =>
    intro k h hx
    obtain ⟨y, hy⟩ := h e (List.mem_cons_self ..)
    rw [Instr.findNow, hy, same_str]
    cases hc : x == y
    · obtain ⟨z, hz, hzx⟩ := hx
      have hne : z ≠ e := by
        rintro rfl
        rw [hy] at hzx
        cases hzx
        rw [(MapKept.bytes_beq _ _).2 rfl] at hc
        cases hc
      have hz' : z ∈ l := by
        rcases List.mem_cons.1 hz with e0 | e0
        · exact absurd e0 hne
        · exact e0
      obtain ⟨j, e', h1, h2, h3⟩ := ih (k + 1) (fun w hw => h w (List.mem_cons_of_mem _ hw)) ⟨z, hz', hzx⟩
      exact ⟨j, e', List.mem_cons_of_mem _ h1, h2, h3⟩
    · have := (MapKept.bytes_beq _ _).1 hc
      subst this
      exact ⟨k, e, List.mem_cons_self .., hy, rfl⟩
/-- The map of words to their kinds. -/
def KindMap (wd : Int → List UInt8) (w : World) (m : Nat) : Prop := ∃ (es : Array MapEntry) (clock : Nat), w.heap[m]? = some (.map es clock) ∧ KindsAre wd [0, 1, 2] es
theorem KindMap.next {wd : Int → List UInt8} {w w' : World} {m : Nat} (h : KindMap wd w m) (hb : Below w.heap.size w w') : KindMap wd w' m := by
  obtain ⟨es, clock, h1, h2⟩ := h
  exact ⟨es, clock, (hb.block m (Array.getElem?_eq_some_iff.1 h1).1).trans h1, h2⟩
theorem KindMap.lt {wd : Int → List UInt8} {w : World} {m : Nat} (h : KindMap wd w m) : m < w.heap.size := by
  obtain ⟨es, clock, h1, h2⟩ := h
  exact (Array.getElem?_eq_some_iff.1 h1).1
theorem KindMap.kept {wd : Int → List UInt8} {w w' : World} {m g : Nat} {T : TypeId} {cs : Array Value} (h : KindMap wd w m) (hk : w.grownBy w' (some g)) (hb : Blk w g T cs) : KindMap wd w' m := by
  obtain ⟨es, clock, h1, h2⟩ := h
  refine ⟨es, clock, (hk.block m (Array.getElem?_eq_some_iff.1 h1).1 ?_).trans h1, h2⟩
  intro e
  cases e
  rw [show w.heap[m]? = _ from hb] at h1
  cases h1
/-- Three words that differ. -/
def Three (wd : Int → List UInt8) : Prop := wd 1 ≠ wd 2 ∧ wd 1 ≠ wd 3 ∧ wd 2 ≠ wd 3
theorem three_inj {wd : Int → List UInt8} (h : Three wd) {i j : Nat} (hi : i < 3) (hj : j < 3) (e : wd ((i : Int) + 1) = wd ((j : Int) + 1)) : i = j := by
  obtain ⟨h1, h2, h3⟩ := h
  have ci : i = 0 ∨ i = 1 ∨ i = 2 := by omega
  have cj : j = 0 ∨ j = 1 ∨ j = 2 := by omega
  rcases ci with rfl | rfl | rfl <;> rcases cj with rfl | rfl | rfl
  · rfl
  · exact absurd e h1
  · exact absurd e h2
  · exact absurd e.symm h1
  · rfl
  · exact absurd e h3
  · exact absurd e.symm h2
  · exact absurd e.symm h3
  · rfl
theorem run_look2 {P : Program} {w : World} (mty kt et : TypeId) (r clock : Nat) (x : ByteArray) (es : Array MapEntry) (a : Option (Nat × Value)) (z : Value) (hm : P.underlying mty = some (.map kt et)) (hk : P.underlying kt = some .string) (hz : ∀ w, (zeroValue et).run P w = .ok z w) (hb : w.heap[r]? = some (.map es clock))
    (hf : Instr.findNow .string (.string x) es.toList 0 = some a) :
    (Instr.lookup mty (.map (some r)) (.string x) true).run P w = .ok (match a with | some (_, v) => .tuple #[v, .bool true] | none => .tuple #[z, .bool false]) w := by
  have hc : (Instr.checkKey es.isEmpty 10000 kt (.string x)).run P w = .ok () w := MapKept.run_checkKey (k := .string x) hk (by simp [MapKept.IsKey]) es.isEmpty 9999
  cases a with
  | none => simp [Instr.lookup, run_underlying hm, MapKept.run_getObj_map hb, hc, MapKept.run_findKey hk hf, hz, Result.andThen]
  | some p => simp [Instr.lookup, run_underlying hm, MapKept.run_getObj_map hb, hc, MapKept.run_findKey hk hf, Result.andThen]
/-- The kind of a word, if it is one. -/
def kindIn (wd : Int → List UInt8) (x : List UInt8) : Option Int := if x = wd 1 then some 1 else if x = wd 2 then some 2 else if x = wd 3 then some 3 else none
def kindVal (wd : Int → List UInt8) (x : List UInt8) : Value := .tuple #[.int .i64 ((kindIn wd x).getD 0), .bool (kindIn wd x).isSome]
theorem kind_look {wd : Int → List UInt8} (h3 : Three wd) {w : World} {m : Nat} (h : KindMap wd w m) {P : Program} (mty kt et : TypeId) (hm : P.underlying mty = some (.map kt et)) (hk : P.underlying kt = some .string) (hz : ∀ w, (zeroValue et).run P w = .ok (.int .i64 0) w) (x : List UInt8) :
    (Instr.lookup mty (.map (some m)) (.string (ba x)) true).run P w = .ok (kindVal wd x) w := by
  obtain ⟨es, clock, hb, hK⟩ := h
  have hstr : ∀ e ∈ es.toList, ∃ y, e.key = .string y := fun e he => by obtain ⟨i, _, h1, _⟩ := hK.all e he; exact ⟨_, h1⟩
  have hit : ∀ i : Nat, i < 3 → x = wd ((i : Int) + 1) → (Instr.lookup mty (.map (some m)) (.string (ba x)) true).run P w = .ok (.tuple #[.int .i64 ((i : Int) + 1), .bool true]) w := by
    intro i hi hx
    have hmem : i ∈ [0, 1, 2] := by
      have : i = 0 ∨ i = 1 ∨ i = 2 := by omega
      rcases this with rfl | rfl | rfl <;> simp
    obtain ⟨j, e, he, hke, hf⟩ := find_hit (x := ba x) es.toList 0 hstr (by rw [hx]; exact hK.each i hmem)
    obtain ⟨i', hi', hk', hv'⟩ := hK.all e he
    rw [hke] at hk'
    have hxx := ba_inj (Value.string.inj hk')
    have hi3 : i' < 3 := by
      simp only [List.mem_cons, List.mem_nil_iff, or_false] at hi'
      omega
    have : i = i' := three_inj h3 hi hi3 (hx.symm.trans hxx)
    subst this
    rw [hv'] at hf
    rw [run_look2 mty kt et m clock (ba x) es _ (.int .i64 0) hm hk hz hb hf]
  unfold kindVal kindIn
  by_cases h1 : x = wd 1
  · rw [if_pos h1]
    exact hit 0 (by omega) h1
  · by_cases h2 : x = wd 2
    · rw [if_neg h1, if_pos h2]
      exact hit 1 (by omega) h2
    · by_cases h4 : x = wd 3
      · rw [if_neg h1, if_neg h2, if_pos h4]
        exact hit 2 (by omega) h4
      · rw [if_neg h1, if_neg h2, if_neg h4]
        have hf := find_miss (x := ba x) es.toList 0 (fun e he => by
          obtain ⟨i, hi, hk', _⟩ := hK.all e he
          refine ⟨_, hk', fun e0 => ?_⟩
          have hx := ba_inj e0
          simp only [List.mem_cons, List.mem_nil_iff, or_false] at hi
          rcases hi with rfl | rfl | rfl
          · exact h1 hx.symm
          · exact h2 hx.symm
          · exact h4 hx.symm)
        rw [run_look2 mty kt et m clock (ba x) es _ (.int .i64 0) hm hk hz hb hf]
        rfl
/-- A map of three kinds to their words, as it is laid. -/
def wordMap (wd : Int → List UInt8) : Array MapEntry := #[entry 1 (wd 1) 0, entry 2 (wd 2) 1, entry 3 (wd 3) 2]
theorem srcMap_eq : srcMap = wordMap srcWord := rfl
theorem lnkMap_eq : lnkMap = wordMap lnkWord := rfl
theorem wordMap_mem {wd : Int → List UInt8} {e : MapEntry} (h : e ∈ (wordMap wd).toList) : ∃ i : Nat, i < 3 ∧ e = entry ((i : Int) + 1) (wd ((i : Int) + 1)) i := by
  simp only [wordMap, List.mem_cons, List.mem_nil_iff, or_false] at h
  rcases h with rfl | rfl | rfl
  · exact ⟨0, by omega, rfl⟩
  · exact ⟨1, by omega, rfl⟩
  · exact ⟨2, by omega, rfl⟩
/-- The loop of turned, under way. -/
structure TurnR (wd : Int → List UInt8) (w : World) (b : Nat) (s : List Nat) (wr : World) : Prop where
  low : Below w.heap.size w wr
  size : wr.heap.size = w.heap.size + 2
  src : wr.heap[b]? = some (.map (wordMap wd) 3)
  out : ∃ (es : Array MapEntry) (clock : Nat), wr.heap[w.heap.size]? = some (.map es clock) ∧ KindsAre wd s es
  it : ∃ c0, 3 ≤ c0 ∧ wr.heap[w.heap.size + 1]? = some (.mapIter (some b) 3 s.toArray c0)
theorem kinds_push {wd : Int → List UInt8} {s : List Nat} {es : Array MapEntry} (h : KindsAre wd s es) (i c : Nat) : KindsAre wd (s ++ [i]) (es.push { key := .string (ba (wd ((i : Int) + 1))), val := .int .i64 ((i : Int) + 1), born := c }) := by
  refine ⟨fun e he => ?_, fun j hj => ?_⟩
  · rw [Array.toList_push, List.mem_append] at he
    rcases he with he | he
    · obtain ⟨j, hj, h1⟩ := h.all e he
      exact ⟨j, List.mem_append.2 (.inl hj), h1⟩
    · rw [List.mem_singleton] at he
      subst he
      exact ⟨i, List.mem_append.2 (.inr (by simp)), rfl, rfl⟩
  · rw [List.mem_append] at hj
    rcases hj with hj | hj
    · obtain ⟨e, he, h1⟩ := h.each j hj
      exact ⟨e, by rw [Array.toList_push, List.mem_append]; exact .inl he, h1⟩
    · rw [List.mem_singleton] at hj
      subst hj
      exact ⟨{ key := .string (ba (wd ((j : Int) + 1))), val := .int .i64 ((j : Int) + 1), born := c }, by rw [Array.toList_push, List.mem_append]; exact .inr (by simp), rfl⟩
theorem kinds_all {wd : Int → List UInt8} {s : List Nat} {es : Array MapEntry} (h : KindsAre wd s es) (hs : ∀ i ∈ s, i < 3) (ha : ∀ i, i < 3 → i ∈ s) : KindsAre wd [0, 1, 2] es := by
  refine ⟨fun e he => ?_, fun i hi => h.each i (ha i ?_)⟩
  · obtain ⟨i, hi, h1⟩ := h.all e he
    have := hs i hi
    refine ⟨i, ?_, h1⟩
    have h2 : i = 0 ∨ i = 1 ∨ i = 2 := by omega
    rcases h2 with rfl | rfl | rfl <;> simp
  · simp only [List.mem_cons, List.mem_nil_iff, or_false] at hi
    omega
theorem setBlock_same {w : World} {r : Nat} {o : Obj} (h : r < w.heap.size) : (setBlock w r o).heap[r]? = some o := by
  simp [setBlock, h]
theorem setBlock_other {w : World} {r k : Nat} {o : Obj} (h : k ≠ r) : (setBlock w r o).heap[k]? = w.heap[k]? := by
  simp [setBlock, Array.getElem?_setIfInBounds, Ne.symm h]
theorem setBlock_size (w : World) (r : Nat) (o : Obj) : (setBlock w r o).heap.size = w.heap.size := by simp [setBlock]
theorem below_setBlock {B : Nat} {a w : World} (h : Below B a w) {r : Nat} (hr : B ≤ r) (o : Obj) : Below B a (setBlock w r o) :=
  ⟨h.os, h.tape, h.output, by rw [setBlock_size]; exact h.size, fun k hk => (setBlock_other (by omega)).trans (h.block k hk)⟩
theorem below_putObj {B : Nat} {a w : World} (h : Below B a w) {r : Nat} (hr : B ≤ r) (o : Obj) : Below B a (w.putObj r o) :=
  ⟨h.os, h.tape, h.output, by simpa [World.putObj] using h.size, fun k hk => (World.putObj_heap_other (by omega)).trans (h.block k hk)⟩
theorem run_insertS {P : Program} {w : World} (mty kt et : TypeId) (r clock : Nat) (x : ByteArray) (es : Array MapEntry) (val : Value) (hm : P.underlying mty = some (.map kt et)) (hk : P.underlying kt = some .string) (hb : w.heap[r]? = some (.map es clock))
    (hf : Instr.findNow .string (.string x) es.toList 0 = some none) :
    (Instr.mapUpdate mty (.map (some r)) (.string x) val).run P w = .ok () (w.putObj r (.map (es.push { key := .string x, val := val, born := clock }) (clock + 1))) := by
  have hc : (Instr.checkKey es.isEmpty 10000 kt (.string x)).run P w = .ok () w := MapKept.run_checkKey (k := .string x) hk (by simp [MapKept.IsKey]) es.isEmpty 9999
  have hc' : (Instr.checkKey false 10000 kt (.string x)).run P w = .ok () w := MapKept.run_checkKey (k := .string x) hk (by simp [MapKept.IsKey]) false 9999
  simp [Instr.mapUpdate, run_underlying hm, MapKept.run_getObj_map hb, hc, hc', MapKept.run_findKey hk hf, MapKept.run_setObj_map _ hb, Result.andThen, World.putObj]
/-- What a step of the loop does: nothing is left, or a word that has not been seen comes. -/
theorem turn_step {P : Program} {wd : Int → List UInt8} (h3 : Three wd) {w wr : World} {b : Nat} {s : List Nat} (hbl : b < w.heap.size) (h : TurnR wd w b s wr) (hs : ∀ i ∈ s, i < 3) (ty : TypeId) :
    ((∀ i, i < 3 → i ∈ s) ∧ (Instr.next (.pointer (some ⟨w.heap.size + 1, 0, none⟩)) false ty).run P wr = .ok (.tuple #[.bool false]) wr) ∨
    ∃ (i : Nat) (W : World) (es : Array MapEntry) (clock : Nat), i < 3 ∧ i ∉ s ∧ (Instr.next (.pointer (some ⟨w.heap.size + 1, 0, none⟩)) false ty).run P wr = .ok (.tuple #[.bool true, .int .i64 ((i : Int) + 1), .string (ba (wd ((i : Int) + 1)))]) W ∧
      (Instr.entry (.pointer (some ⟨w.heap.size + 1, 0, none⟩))).run P W = .ok (.tuple #[.int .i64 ((i : Int) + 1), .string (ba (wd ((i : Int) + 1)))]) W ∧
      (∀ (mty kt et : TypeId), P.underlying mty = some (.map kt et) → P.underlying kt = some .string →
        (Instr.mapUpdate mty (.map (some w.heap.size)) (.string (ba (wd ((i : Int) + 1)))) (.int .i64 ((i : Int) + 1))).run P W = .ok () (W.putObj w.heap.size (.map (es.push { key := .string (ba (wd ((i : Int) + 1))), val := .int .i64 ((i : Int) + 1), born := clock }) (clock + 1)))) ∧
      TurnR wd w b (s ++ [i]) (W.putObj w.heap.size (.map (es.push { key := .string (ba (wd ((i : Int) + 1))), val := .int .i64 ((i : Int) + 1), born := clock }) (clock + 1))) := by
  obtain ⟨hlow, hsz, hsrc, ⟨es, clock, hout, hK⟩, c0, hc0, hit⟩ := h
  have hold : ∀ x ∈ (wordMap wd).toList, x.born < 3 := fun x hx => by
    obtain ⟨i, hi, rfl⟩ := wordMap_mem hx
    exact hi
  rcases run_next_at (P := P) wr ty (w.heap.size + 1) b 3 c0 s.toArray (wordMap wd) 3 hit hsrc hold hc0 with ⟨h0, hrun⟩ | ⟨e, he, w1, hw1, hrun⟩
  · left
    refine ⟨fun i hi => ?_, hrun⟩
    have hmem : entry ((i : Int) + 1) (wd ((i : Int) + 1)) i ∈ (wordMap wd).toList := by
      have hci : i = 0 ∨ i = 1 ∨ i = 2 := by omega
      rcases hci with rfl | rfl | rfl <;> simp [wordMap]
    by_cases hi' : i ∈ s
    · exact hi'
    · exfalso
      have : entry ((i : Int) + 1) (wd ((i : Int) + 1)) i ∈ (leftOf (wordMap wd) s.toArray) := by
        unfold leftOf
        rw [Array.mem_filter]
        exact ⟨Array.mem_toList_iff.1 hmem, by simp [entry, hi']⟩
      have := Array.size_pos_of_mem this
      omega
  · right
    have he' : e ∈ (wordMap wd).toList ∧ e.born ∉ s := by
      have h1 : e ∈ leftOf (wordMap wd) s.toArray := Array.mem_toList_iff.1 he
      unfold leftOf at h1
      rw [Array.mem_filter] at h1
      exact ⟨Array.mem_toList_iff.2 h1.1, by simpa using h1.2⟩
    obtain ⟨i, hi, rfl⟩ := wordMap_mem he'.1
    have hl1 : Below w.heap.size w w1 ∧ w1.heap = wr.heap := by
      rcases hw1 with rfl | rfl
      · exact ⟨hlow, rfl⟩
      · exact ⟨hlow.drew, rfl⟩
    obtain ⟨hl1, hh⟩ := hl1
    have hsz1 : w1.heap.size = w.heap.size + 2 := by rw [hh]; exact hsz
    have hgo : ∀ k, k ≠ w.heap.size + 1 → (setBlock w1 (w.heap.size + 1) (.mapIter (some b) 3 (s.toArray.push i) 3)).heap[k]? = wr.heap[k]? := fun k hk => by rw [setBlock_other hk, hh]
    have hb2 := (hgo b (by omega)).trans hsrc
    have hm2 := (hgo w.heap.size (by omega)).trans hout
    have hi2 : (setBlock w1 (w.heap.size + 1) (.mapIter (some b) 3 (s.toArray.push i) 3)).heap[w.heap.size + 1]? = some (.mapIter (some b) 3 (s.toArray.push i) 3) := setBlock_same (by omega)
    have hL2 := below_setBlock hl1 (r := w.heap.size + 1) (by omega) (.mapIter (some b) 3 (s.toArray.push i) 3)
    have hS2 := setBlock_size w1 (w.heap.size + 1) (.mapIter (some b) 3 (s.toArray.push i) 3)
    have hrun' : (Instr.next (.pointer (some ⟨w.heap.size + 1, 0, none⟩)) false ty).run P wr = .ok (.tuple #[.bool true, .int .i64 ((i : Int) + 1), .string (ba (wd ((i : Int) + 1)))]) (setBlock w1 (w.heap.size + 1) (.mapIter (some b) 3 (s.toArray.push i) 3)) := hrun
    generalize setBlock w1 (w.heap.size + 1) (.mapIter (some b) 3 (s.toArray.push i) 3) = W at hb2 hm2 hi2 hL2 hS2 hrun'
    refine ⟨i, W, es, clock, hi, he'.2, hrun', ?_, ?_, ?_⟩
    · have := run_entry_at (P := P) W (w.heap.size + 1) b 3 s.toArray (wordMap wd) 3 (entry ((i : Int) + 1) (wd ((i : Int) + 1)) i) hi2 hb2 he'.1 (by simp [wordMap, entry])
      exact this
    · intro mty kt et hm hk
      refine run_insertS mty kt et w.heap.size clock _ es _ hm hk hm2 (find_miss _ _ fun x hx => ?_)
      obtain ⟨j, hj, hjk, _⟩ := hK.all x hx
      refine ⟨_, hjk, fun e0 => ?_⟩
      have h5 := three_inj h3 (hs j hj) hi (ba_inj e0)
      subst h5
      exact he'.2 hj
    · refine ⟨below_putObj hL2 (Nat.le_refl _) _, by simp [World.putObj]; omega, (World.putObj_heap_other (by omega)).trans hb2, ⟨_, _, World.putObj_heap_same (by omega), kinds_push hK i clock⟩, 3, Nat.le_refl _, (World.putObj_heap_other (by omega)).trans (hi2.trans ?_)⟩
      simp
theorem three_src : Three srcWord := ⟨by decide, by decide, by decide⟩
theorem three_lnk : Three lnkWord := ⟨by decide, by decide, by decide⟩
set_option maxRecDepth 100000 in
set_option maxHeartbeats 2000000 in
theorem turnedS_any (b : Nat) (w : World) (hb : w.heap[b]? = some (.map srcMap 3)) :
    Calls Tryz.prog 61 #[.map (some b)] w fun e w' => e = .returned (.map (some w.heap.size)) ∧ Below w.heap.size w w' ∧ KindMap srcWord w' w.heap.size := by
  have hmm := @run_makeMap Tryz.prog
  have hbl : b < w.heap.size := (Array.getElem?_eq_some_iff.1 hb).1
  have hb1 : (w.alloc (.map #[] 0)).heap[b]? = some (.map srcMap 3) := by rw [heap_alloc_old w _ hbl]; exact hb
  have hrg := run_range_map (P := Tryz.prog) (w.alloc (.map #[] 0)) 104 108 9 b srcMap 3 Tryz.underlying104 hb1
  have H0 : Hid (TurnR srcWord w b [] ((w.alloc (.map #[] 0)).alloc (.mapIter (some b) 3 #[] 3))) := by
    refine ⟨((Below.refl _ _).alloc (Nat.le_refl _) _).alloc (by simp) _, by simp, ?_, ?_, ?_⟩
    · rw [heap_alloc_old _ _ (by simp; omega), hb1]
      rfl
    · refine ⟨#[], 0, ?_, ⟨fun e he => by simp at he, fun i hi => by simp at hi⟩⟩
      rw [heap_alloc_old _ _ (by simp)]
      exact heap_alloc_new w _
    · refine ⟨3, Nat.le_refl _, ?_⟩
      have h := heap_alloc_new (w.alloc (.map #[] 0)) (.mapIter (some b) 3 #[] 3)
      simpa using h
  have e1 : (w.alloc (.map #[] 0)).heap.size = w.heap.size + 1 := by simp
  rw [e1] at hrg
  clear hb hb1
  go_enter Tryz.func61, Tryz.ntmps61
  go_wp2
  go_loopw [9] (fun _ wr => ∃ s : List Nat, (∀ i ∈ s, i < 3) ∧ Hid (TurnR srcWord w b s wr)) (fun _ wr => ((List.range 3).filter fun i => !(wr.iterSeen (w.heap.size + 1)).contains i).length)
  case atStart => exact ⟨[], fun i hi => by simp at hi, H0⟩
  case round =>
    obtain ⟨s, hs, HR⟩ := hrel
    have hseen : ∀ (s' : List Nat) (W : World), TurnR srcWord w b s' W → W.iterSeen (w.heap.size + 1) = s'.toArray := fun s' W h => by
      obtain ⟨c0, _, h1⟩ := h.it
      unfold World.iterSeen
      rw [h1]
    rcases turn_step (P := Tryz.prog) three_src hbl HR.out hs 0 with ⟨hall, hrun⟩ | ⟨i, W, es, clock, hi, hni, hrun, hent, hupd, hnew⟩
    · have HE := Lib.hid hall
      clear hall hseen
      go_wp2
      go_ret
      obtain ⟨es, clock, hm, hK⟩ := HR.out.out
      exact ⟨rfl, HR.out.low, es, clock, hm, kinds_all hK hs HE.out⟩
    · have hupd' := hupd 123 9 108 Tryz.underlying123 Tryz.underlying9
      have HN := Lib.hid hnew
      have HS := Lib.hid hseen
      clear hupd hnew hseen
      go_wp2
      refine ⟨⟨s ++ [i], fun j hj => ?_, HN⟩, ?_⟩
      · rcases List.mem_append.1 hj with h | h
        · exact hs j h
        · rw [List.mem_singleton] at h
          omega
      · rw [HS.out _ _ HN.out, HS.out _ _ HR.out]
        exact filter_lt _ _ (fun x hx => by simp at hx ⊢; exact hx.1) i (by simp [hni]) (by simp) _ (by simp [hi])
set_option maxRecDepth 100000 in
set_option maxHeartbeats 2000000 in
theorem turnedL_any (b : Nat) (w : World) (hb : w.heap[b]? = some (.map lnkMap 3)) :
    Calls Tryz.prog 62 #[.map (some b)] w fun e w' => e = .returned (.map (some w.heap.size)) ∧ Below w.heap.size w w' ∧ KindMap lnkWord w' w.heap.size := by
  have hmm := @run_makeMap Tryz.prog
  have hbl : b < w.heap.size := (Array.getElem?_eq_some_iff.1 hb).1
  have hb1 : (w.alloc (.map #[] 0)).heap[b]? = some (.map lnkMap 3) := by rw [heap_alloc_old w _ hbl]; exact hb
  have hrg := run_range_map (P := Tryz.prog) (w.alloc (.map #[] 0)) 106 76 9 b lnkMap 3 Tryz.underlying106 hb1
  have H0 : Hid (TurnR lnkWord w b [] ((w.alloc (.map #[] 0)).alloc (.mapIter (some b) 3 #[] 3))) := by
    refine ⟨((Below.refl _ _).alloc (Nat.le_refl _) _).alloc (by simp) _, by simp, ?_, ?_, ?_⟩
    · rw [heap_alloc_old _ _ (by simp; omega), hb1]
      rfl
    · refine ⟨#[], 0, ?_, ⟨fun e he => by simp at he, fun i hi => by simp at hi⟩⟩
      rw [heap_alloc_old _ _ (by simp)]
      exact heap_alloc_new w _
    · refine ⟨3, Nat.le_refl _, ?_⟩
      have h := heap_alloc_new (w.alloc (.map #[] 0)) (.mapIter (some b) 3 #[] 3)
      simpa using h
  have e1 : (w.alloc (.map #[] 0)).heap.size = w.heap.size + 1 := by simp
  rw [e1] at hrg
  clear hb hb1
  go_enter Tryz.func62, Tryz.ntmps62
  go_wp2
  go_loopw [9] (fun _ wr => ∃ s : List Nat, (∀ i ∈ s, i < 3) ∧ Hid (TurnR lnkWord w b s wr)) (fun _ wr => ((List.range 3).filter fun i => !(wr.iterSeen (w.heap.size + 1)).contains i).length)
  case atStart => exact ⟨[], fun i hi => by simp at hi, H0⟩
  case round =>
    obtain ⟨s, hs, HR⟩ := hrel
    have hseen : ∀ (s' : List Nat) (W : World), TurnR lnkWord w b s' W → W.iterSeen (w.heap.size + 1) = s'.toArray := fun s' W h => by
      obtain ⟨c0, _, h1⟩ := h.it
      unfold World.iterSeen
      rw [h1]
    rcases turn_step (P := Tryz.prog) three_lnk hbl HR.out hs 0 with ⟨hall, hrun⟩ | ⟨i, W, es, clock, hi, hni, hrun, hent, hupd, hnew⟩
    · have HE := Lib.hid hall
      clear hall hseen
      go_wp2
      go_ret
      obtain ⟨es, clock, hm, hK⟩ := HR.out.out
      exact ⟨rfl, HR.out.low, es, clock, hm, kinds_all hK hs HE.out⟩
    · have hupd' := hupd 125 9 76 Tryz.underlying125 Tryz.underlying9
      have HN := Lib.hid hnew
      have HS := Lib.hid hseen
      clear hupd hnew hseen
      go_wp2
      refine ⟨⟨s ++ [i], fun j hj => ?_, HN⟩, ?_⟩
      · rcases List.mem_append.1 hj with h | h
        · exact hs j h
        · rw [List.mem_singleton] at h
          omega
      · rw [HS.out _ _ HN.out, HS.out _ _ HR.out]
        exact filter_lt _ _ (fun x hx => by simp at hx ⊢; exact hx.1) i (by simp [hni]) (by simp) _ (by simp [hi])
end Go.Proofs.YtcnmfblbfpcghaaGreatDoor
