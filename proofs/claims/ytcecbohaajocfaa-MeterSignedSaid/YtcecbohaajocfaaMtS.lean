/- meter: the sets of so many nodes, one after the other. -/
import Derived.Test.YtcecbohaajocfaaMtC
import Derived.Test.YtcecbohaajocfaaRgY
import Derived.Test.YtcecbohaajocfaaFreeB
import Derived.Maps.OwnIn

set_option linter.unusedSimpArgs false
set_option linter.unusedVariables false
namespace Go.Proofs.Ytcecbohaajocfaa
open Go.RowKit Go.Shelf
attribute [local go_sem] Oper.semAt_some

theorem KpO.far {Sf : Nat → Obj → Prop} {A B : World} (h : KpO Sf A B) {b o : Nat} (hb : A.heap.size ≤ b) (u : Value) : KpO Sf A (B.setCell ⟨b, o, none⟩ u) :=
  ⟨by simp only [World.setCell]; have := h.1; simpa using this, fun k x hs e hc => (Below.heap_setCell _ _ _ _ (fun e1 => by have := (Array.getElem?_eq_some_iff.1 e).1; dsimp only at e1; omega)).trans (h.2 k x hs e hc)⟩
/-- A set as it is yielded: where it lies, and its numbers. -/
abbrev SetE := (Option Addr × Nat) × List Nat
def encE (k : Nat) (x : SetE) : Array Value := #[.slice x.1.1 k x.1.2]
def XSet (n k : Nat) : Nat → List SetE → SetE → World → Prop := fun B pre x W => B + 1 ≤ W.heap.size ∧ (∃ b, B + 1 ≤ b ∧ RowW W b 3 encN x.1.1 x.2) ∧ x.2.length = k ∧ Vc n x.2 ∧ UpC n k ((pre ++ [x]).map Prod.snd)
def natsA (l : List Nat) : Array Value := intsA (l.map fun x => ((x : Nat) : Int))
theorem natsA_set (l : List Nat) (k x : Nat) : (natsA l).setIfInBounds k (.int .i64 (x : Int)) = natsA (l.set k x) := by
  unfold natsA
  rw [intsA_set, List.map_set]
theorem natsA_at {w : World} {g : Nat} {T : TypeId} {l : List Nat} {k x : Nat} (h : Blk w g T (natsA l)) (hx : l[k]? = some x) : w.cell? ⟨g, k, none⟩ = some (.int .i64 (x : Int)) :=
  Blk.intAt (x := (x : Int)) h (by rw [List.getElem?_map, hx]; rfl)
/-- What the block of a set says. -/
def readC (w : World) (g k : Nat) : List Nat := (List.range k).map fun i => match w.cell? ⟨g, i, none⟩ with | some (.int _ x) => x.toNat | _ => 0
theorem readC_is {w : World} {g : Nat} {T : TypeId} {l : List Nat} (h : Blk w g T (natsA l)) : readC w g l.length = l := by
  apply List.ext_getElem
  · simp [readC]
  · intro i h1 h2
    have := natsA_at h (List.getElem?_eq_getElem h2)
    simp [readC, this]
/-- The iterator under way. -/
structure StI (W0 : World) (Sf : Nat → Obj → Prop) (sb : Nat) (cs : List Nat) (V : World) : Prop where
  k : KpO Sf W0 V
  b : Blk V sb 3 (natsA cs)
theorem StI.store {W0 : World} {Sf : Nat → Obj → Prop} {sb : Nat} {cs : List Nat} {V : World} (h : StI W0 Sf sb cs V) (hs : W0.heap.size ≤ sb) (i x : Nat) : StI W0 Sf sb (cs.set i x) (V.setCell ⟨sb, i, none⟩ (.int .i64 (x : Int))) :=
  ⟨h.k.far hs _, by have h9 := h.b.set_ i (.int .i64 (x : Int)); rw [natsA_set] at h9; exact h9⟩
/-- So many nodes of the next set are laid. -/
def midC (c : List Nat) (last j : Nat) : List Nat := (List.range c.length).map fun i => if i < last then c.getD i 0 else if i < j then c.getD last 0 + 1 + (i - last) else c.getD i 0
theorem midC_set {c : List Nat} {last j : Nat} (hl : last ≤ j) (hj : j < c.length) : (midC c last j).set j (c.getD last 0 + 1 + (j - last)) = midC c last (j + 1) := by
  apply List.ext_getElem
  · simp [midC]
  · intro i h1 h2
    simp only [midC, List.getElem_set, List.getElem_map, List.getElem_range]
    by_cases e : j = i
    · subst e
      rw [if_pos rfl, if_neg (by omega), if_pos (by omega)]
    · rw [if_neg e]
      by_cases h3 : i < last
      · rw [if_pos h3, if_pos h3]
      · rw [if_neg h3, if_neg h3]
        by_cases h4 : i < j
        · rw [if_pos h4, if_pos (by omega)]
        · rw [if_neg h4, if_neg (by omega)]
theorem midC_first {c : List Nat} {last : Nat} : midC c last last = c := by
  apply List.ext_getElem
  · simp [midC]
  · intro i h1 h2
    have : c.getD i 0 = c[i] := by rw [List.getD_eq_getElem?_getD, List.getElem?_eq_getElem h2]; rfl
    simp only [midC, List.getElem_map, List.getElem_range, this]
    split
    · rfl
    · rfl
theorem midC_last {c : List Nat} {last : Nat} (h : last < c.length) : midC c last c.length = nxtC c last := by
  refine list_ext (by rw [nxtC_len h]; simp [midC]) fun i hi => ?_
  have hi2 : i < c.length := by simpa [midC] using hi
  rw [nxtC_get h i hi2, List.getD_eq_getElem?_getD]
  simp [midC, hi2]
theorem midC_get {c : List Nat} {last j i : Nat} (hi : i < c.length) : (midC c last j)[i]? = some (if i < last then c.getD i 0 else if i < j then c.getD last 0 + 1 + (i - last) else c.getD i 0) := by simp [midC, hi]
theorem sets_any (n k : Nat) (w : World) :
    Calls Try.prog 81 #[.int .i64 (n : Int), .int .i64 (k : Int)] w fun e w' => ∃ kB nB, e = .returned (.func (.func 104) #[] #[.pointer (some ⟨kB, 0, none⟩), .pointer (some ⟨nB, 0, none⟩)]) ∧ Blk w' kB 3 #[.int .i64 (k : Int)] ∧ Blk w' nB 3 #[.int .i64 (n : Int)] ∧ w.heap.size ≤ kB ∧ w.heap.size ≤ nB ∧ Below w.heap.size w w' := by
  go_enter Try.func81, Try.ntmps81
  go_wp2
  go_ret
  refine ⟨_, _, rfl, ?_, Blk.alloc (heap_alloc_new w _) _, by omega, Nat.le_refl _, ((Below.refl _ _).alloc (Nat.le_refl _) _).alloc (by simp) _⟩
  have e2 := heap_alloc_new (w.alloc (.cells #[.int .i64 (n : Int)] 3)) (.cells #[.int .i64 (k : Int)] 3)
  rw [World.size_alloc] at e2
  exact e2
def s8Phi (l : Int) (k n sb : Nat) (x : Int) (li : Nat) (g d : Bool) : Nat → Value → World → (Nat → Nat) → Prop
  | 0, v, _, _ => v = .int .i64 l
  | 1, v, _, _ => v = .bool g
  | 2, v, _, _ => v = .bool g
  | 3, v, _, _ => g = true → v = .slice (some ⟨sb, 0, none⟩) k k
  | 4, v, _, _ => g = true → v = .int .i64 (li : Int)
  | 5, v, _, _ => g = true → v = .pointer (some ⟨sb, li, none⟩)
  | 6, v, _, _ => g = true → v = .int .i64 x
  | 7, v, _, _ => g = true → v = .int .i64 (n : Int)
  | 8, v, _, _ => g = true → v = .int .i64 (k : Int)
  | 9, v, _, _ => g = true → v = .int .i64 ((n : Int) - (k : Int))
  | 10, v, _, _ => g = true → v = .int .i64 (li : Int)
  | 11, v, _, _ => g = true → v = .int .i64 ((n : Int) - (k : Int) + (li : Int))
  | 12, v, _, _ => g = true → v = .bool d
  | 13, v, _, _ => v = .bool (g && d)
  | _, _, _, _ => True
set_option maxRecDepth 100000 in
set_option maxHeartbeats 8000000 in
theorem sets_y (m9 : Nat) (hm9 : 4 ≤ m9) (n k kB nB : Nat) (hkn : k ≤ n) (hn14 : n ≤ 14) (Sf : Nat → Obj → Prop) (w : World) (hbk : Blk w kB 3 #[.int .i64 (k : Int)]) (hbn : Blk w nB 3 #[.int .i64 (n : Int)]) (hS0 : ∀ o, Sf kB o ∧ Sf nB o) (hS1 : ∀ cs, Sf (w.heap.size + 2) (.cells cs 3)) :
    SeqY Fence.wide m9 Try.prog 104 #[.pointer (some ⟨kB, 0, none⟩), .pointer (some ⟨nB, 0, none⟩)] (encE k) (KpO Sf) (XSet n k) (fun xs => AllC n k (xs.map Prod.snd)) 1 w := by
  intro lp J Jx W hW hWz hJ hJx hY h0
  have KB := Lib.hid (hbk.below hW hbk.lt)
  have NB := Lib.hid (hbn.below hW hbn.lt)
  have HS := Lib.hid (And.intro hS0 (show ∀ cs, Sf W.heap.size (.cells cs 3) by rw [hWz]; exact hS1))
  have HK := Lib.hid (And.intro hkn hn14)
  have hmk := run_makeInts k (by omega)
  have p0 := KB.out.cell 0
  simp only [List.getElem?_toArray, List.getElem?_cons_zero] at p0
  have zp := KB.out.lt
  have hk0 : (0 : Int) ≤ (k : Int) := by omega
  have HY := Lib.hid hY
  have HJ := Lib.hid (And.intro hJ hJx)
  have HJ0 := Lib.hid h0
  clear hbk hbn hW hWz hS0 hS1 hkn hn14 hY hJ hJx h0
  refine callsIn_of_wp Try.func104 rfl trivial ?_ rfl
  simp only [Try.ntmps104, List.size_toArray, List.length_cons, List.length_nil, Nat.reduceAdd, Nat.reduceSub, Array.replicate_succ, Array.replicate_zero, List.push_toArray, List.append_toArray, List.nil_append, List.cons_append]
  gi_wp2
  obtain ⟨sb, hsb⟩ : ∃ z, z = W.heap.size := ⟨_, rfl⟩
  have HSB := Lib.hid hsb
  have hz0 : intsA (List.replicate k 0) = natsA (List.replicate k 0) := by unfold natsA; rw [List.map_replicate]; rfl
  have HI0 : Hid (StI W Sf sb (List.replicate k 0) (W.alloc (.cells (intsA (List.replicate k 0)) 3)) ∧ J [] (W.alloc (.cells (intsA (List.replicate k 0)) 3))) := Lib.hid ⟨⟨KpO.below ((Below.refl _ _).alloc (Nat.le_refl _) _), by rw [hz0, hsb]; exact heap_alloc_new W _⟩, HJ.out.1.alloc _ HJ0.out⟩
  rw [← hsb]
  clear hsb hz0 p0 zp hmk
  gi_loopw [12] (fun iv wr => ∃ j : Nat, j ≤ k ∧ iv = .int .i64 (j : Nat) ∧ Hid (∃ cs, StI W Sf sb cs wr ∧ J [] wr ∧ cs.length = k ∧ ∀ i, i < j → cs.getD i 0 = i)) (fun iv _ => k - (intOf iv).toNat)
  case atStart => exact ⟨0, Nat.zero_le _, rfl, Lib.hid ⟨_, HI0.out.1, HI0.out.2, List.length_replicate .., fun i hi => absurd hi (by omega)⟩⟩
  case round =>
    obtain ⟨j, hj, rfl, HI⟩ := hrel
    by_cases hlt : j < k
    · obtain ⟨cs, hst, hJ, hln, hcs⟩ := HI.out
      have hj0 : (0 : Int) ≤ (j : Int) := by omega
      have hjk : (j : Int) < (k : Int) := by omega
      have hj9 : (j : Int) ≤ 14 := by have := HK.out; omega
      obtain ⟨y, hy⟩ : ∃ y, cs[j]? = some y := ⟨_, List.getElem?_eq_getElem (by omega)⟩
      have cy := natsA_at hst.b hy
      have zs := hst.b.lt
      have fr := hst.b.frozen j
      have HLT : Hid (j < k) := Lib.hid hlt
      obtain ⟨W', hW'⟩ : ∃ z, z = wr.setCell ⟨sb, j, none⟩ (.int .i64 (j : Int)) := ⟨_, rfl⟩
      have HN9 : Hid (∃ cs, StI W Sf sb cs W' ∧ J [] W' ∧ cs.length = k ∧ ∀ i, i < j + 1 → cs.getD i 0 = i) := Lib.hid ⟨cs.set j j, by rw [hW']; exact hst.store (by rw [HSB.out]; exact Nat.le_refl _) j j, by rw [hW']; exact HJ.out.1.cell _ hJ (by have := HSB.out; omega) (by have := HSB.out; omega), by rw [List.length_set]; exact hln, fun i hi => by
        by_cases e : j = i
        · subst e; rw [List.getD_eq_getElem?_getD, List.getElem?_set_self (by omega)]; rfl
        · rw [List.getD_eq_getElem?_getD, List.getElem?_set_ne e, ← List.getD_eq_getElem?_getD]; exact hcs i (by omega)⟩
      clear hst hJ hln hcs hy hlt hj
      gi_wp2
      rw [← hW']
      go_roundw
      case rel => exact ⟨j + 1, by have := HLT.out; omega, by go_num, HN9⟩
      case measure => have := HLT.out; simp [intOf]; omega
    · obtain rfl : k = j := by omega
      obtain ⟨W1, hW1⟩ : ∃ z, z = wr := ⟨wr, rfl⟩
      subst hW1
      have HM0 : Hid (∃ (cs : List Nat) (pre : List SetE), StI W Sf sb cs W1 ∧ J pre W1 ∧ cs.length = k ∧ Vc n cs ∧ UpC n k (pre.map Prod.snd ++ [cs])) := Lib.hid (by
        obtain ⟨cs, hst, hJ, hln, hcs⟩ := HI.out
        have e : cs = firstC k := list_ext (by simp [firstC, hln]) fun i hi => by rw [hcs i (by omega)]; simp [firstC, List.getD_eq_getElem?_getD, show i < k by omega]
        subst e
        exact ⟨_, [], hst, hJ, hln, firstC_ok HK.out.1, .first⟩)
      clear hlt hj
      gi_wp2
      gi_loopw [6] (fun lv wr => Hid (∃ (cs : List Nat) (pre : List SetE), StI W Sf sb cs wr ∧ J pre wr ∧ cs.length = k ∧ Vc n cs ∧ UpC n k (pre.map Prod.snd ++ [cs]))) (fun _ wr => restC (readC wr sb k))
      case atStart => exact HM0
      case round =>
        obtain ⟨cs, pre, hst0, hJ0, hln0, hvc0, hup0⟩ := hrel.out
        obtain ⟨wv, hwv⟩ : ∃ z, z = wr := ⟨wr, rfl⟩
        subst hwv
        have HC := Lib.hid (And.intro hst0 (And.intro hJ0 (And.intro hln0 (And.intro hvc0 hup0))))
        have HME : Hid (restC (readC wv sb k) = restC cs) := Lib.hid (by rw [← hln0, readC_is hst0.b])
        have hrd : Rd wv wv.heap.size 1 encI (some ⟨sb, 0, none⟩) k (cs.map fun x => ((x : Nat) : Int)) := by
          have h9 := Blk.rdI (show Blk wv sb _ (intsA (cs.map fun x => ((x : Nat) : Int))) from hst0.b)
          rw [List.length_map, hln0] at h9
          exact h9
        have KCL := Lib.hid (clone_ints (some ⟨sb, 0, none⟩) k k _ wv hrd (by have := HK.out; omega))
        clear hst0 hJ0 hln0 hvc0 hup0 hrd hrel
        gi_wp2_with fail
        refine ⟨trivial, fun h9 => absurd h9 (by simp [Fence.wide]), ?_⟩
        refine (callsIn_wide.2 KCL.out).mono ?_
        rintro e V1 ⟨A', c', rfl, hown, hB, _⟩
        have hX : XSet n k W.heap.size pre ((A', c'), cs) V1 := by
          refine ⟨by have h1 := HC.out.1.b.lt; have h2 := hB.size; have h3 := HSB.out; omega, ?_, HC.out.2.2.1, HC.out.2.2.2.1, by rw [List.map_append]; exact HC.out.2.2.2.2⟩
          rw [← encN_int] at hown
          have h9 := HC.out.2.2.1
          subst h9
          obtain ⟨A9, c9, b9, e9, hr9, hlo9⟩ := RowW.of_own hown
          simp only [Value.slice.injEq] at e9
          by_cases h0 : cs = []
          · exact ⟨W.heap.size + 1, Nat.le_refl _, Or.inl h0⟩
          · have h7 := (hlo9 (List.length_pos_iff.2 h0)).1
            have h8 := HC.out.1.b.lt
            have h6 := HSB.out
            exact ⟨b9, by omega, by rw [e9.1]; exact hr9⟩
        obtain ⟨fn, tmps, assign, body, hy', hR⟩ := HY.out pre ((A', c'), cs) V1 (HJ.out.1.grow HC.out.2.1 hB) hX
        unfold encE at hy'
        dsimp only at hy'
        have HR9 := Lib.hid hR
        have HB1 := Lib.hid hB
        clear hR hX hown hB KCL
        gi_wp2
        refine ⟨fun h9 => absurd h9 (by simp [Fence.wide]), HR9.out.mono ?_⟩
        rintro e V2 (⟨rfl, hJ2, hk2, _⟩ | ⟨rfl, hJx2, _⟩)
        · have HST2 : Hid (StI W Sf sb cs V2 ∧ J (pre ++ [((A', c'), cs)]) V2) := Lib.hid ⟨⟨(HC.out.1.k.trans (KpO.below HB1.out)).trans hk2, hk2.blk (by rw [HSB.out]; exact HS.out.2 _) (HC.out.1.b.below HB1.out HC.out.1.b.lt)⟩, hJ2⟩
          have hbk := HST2.out.1.k.blk (HS.out.1 _).1 KB.out
          have e0 := hbk.cell 0
          simp only [List.getElem?_toArray, List.getElem?_cons_zero] at e0
          have ze := hbk.lt
          have wk : IntKind.i64.wrap ((k : Int) - 1) = (k : Int) - 1 := IntWalk.i64_in _ (by have := HK.out; omega)
          clear hbk hJ2 hk2 hy'
          gi_wp2
          clear e0 ze wk
          gi_loopw [6] (fun lv wr => ∃ l : Int, lv = .int .i64 l ∧ -1 ≤ l ∧ l < (k : Int) ∧ Hid ((StI W Sf sb cs wr ∧ J (pre ++ [((A', c'), cs)]) wr) ∧ ∀ i : Nat, l < (i : Int) → i < k → cs.getD i 0 + k = n + i)) (fun lv _ => (intOf lv + 1).toNat)
          case atStart => exact ⟨(k : Int) - 1, rfl, by omega, by omega, Lib.hid ⟨HST2.out, fun i h1 h2 => by omega⟩⟩
          case round =>
            obtain ⟨l, rfl, hl1, hl2, HL⟩ := hrel
            obtain ⟨wx, hwx⟩ : ∃ z, z = wr := ⟨wr, rfl⟩
            subst hwx
            have HST := Lib.hid HL.out.1.1
            obtain ⟨li, hli⟩ : ∃ z, z = l.toNat := ⟨_, rfl⟩
            obtain ⟨xi, hxi⟩ : ∃ z : Int, z = ((cs.getD li 0 : Nat) : Int) := ⟨_, rfl⟩
            obtain ⟨g, hg⟩ : ∃ z, z = decide (0 ≤ l) := ⟨_, rfl⟩
            obtain ⟨d, hd⟩ : ∃ z, z = decide (xi = (n : Int) - (k : Int) + (li : Int)) := ⟨_, rfl⟩
            have HG : Hid (decide (0 ≤ l) = g ∧ (g = true → l = (li : Int) ∧ li < k ∧ cs[li]? = some (cs.getD li 0) ∧ decide (xi = (n : Int) - (k : Int) + (li : Int)) = d)) := Lib.hid ⟨hg.symm, fun e => by
              rw [hg] at e
              have h1 := of_decide_eq_true e
              have h2 : li < k := by omega
              have h3 : li < cs.length := by rw [HC.out.2.2.1]; exact h2
              exact ⟨by omega, h2, by rw [List.getD_eq_getElem?_getD, List.getElem?_eq_getElem h3]; rfl, hd.symm⟩⟩
            have HXI := Lib.hid hxi
            have HLB := Lib.hid (And.intro hl1 hl2)
            clear hli hxi hg hd hl1 hl2
            gi_wp2_with fail
            refine wpIn_wide.2 ?_
            refine wp_region_free10 13 (by kernel_rfl) [some 26, some 27, some 28, some 29, some 30, some 31, some 32, some 33, some 34, some 35, some 36, some 37, some 38, some 39] [[], [0], [1], [2], [2], [3, 4, 2], [5, 2], [2], [2], [7, 8, 2], [2], [9, 10, 2], [6, 11, 2], [2, 12]] [(6, .int .i64 l), (4, .slice (some ⟨sb, 0, none⟩) k k), (2, .pointer (some ⟨nB, 0, none⟩)), (1, .pointer (some ⟨kB, 0, none⟩))] (fun W _ => W = wx.drew) (s8Phi l k n sb xi li g d) (fun _ _ _ => True) (by kernel_rfl) (by kernel_rfl) rfl (by kernel_rfl) ?_ ?_ ⟨fun _ => 0, rfl, fun _ _ => trivial⟩ ?_ ?_
            · intro z hz
              simp only [List.mem_cons, List.mem_nil_iff, or_false] at hz
              rcases hz with rfl | rfl | rfl | rfl
              all_goals exact ⟨by kernel_rfl, rfl⟩
            · intro i v W γ hi h
              rcases i with _ | _ | _ | _ | _ | _ | _ | _ | _ | _ | _ | _ | _ | _ | i
              all_goals first | exact h | (simp at hi)
            · refine ⟨?_, ?_, ?_, ?_, ?_, ?_, ?_, ?_, ?_, ?_, ?_, ?_, ?_, ?_, trivial⟩
              all_goals
                intro a9 W γ ev hcc hff hfx hR hψ hpre
                simp only [List.mem_cons, List.mem_nil_iff, or_false, forall_eq, forall_eq_or_imp] at hfx
                obtain ⟨f0, f1, f2, f3⟩ := hfx
                have HR := Lib.hid hR
                clear hR
              · refine ⟨fun hg K hK => ?_, trivial⟩
                clear hg
                clear hpre hψ
                go_simp
                exact hK _ _ γ HR.out (fun _ _ _ _ h => h) (fun _ _ _ h => h) rfl
              · refine ⟨fun hg K hK => ?_, trivial⟩
                clear hg
                have q0 : ev (.tmp 26) = _ := hpre 0 (by decide)
                have wd := HG.out.1
                clear hpre hψ
                go_simp
                exact hK _ _ γ HR.out (fun _ _ _ _ h => h) (fun _ _ _ h => h) rfl
              · refine ⟨fun hg K hK => ?_, trivial⟩
                clear hg
                have q0 : ev (.tmp 27) = _ := hpre 1 (by decide)
                clear hpre hψ
                go_simp
                exact hK _ _ γ HR.out (fun _ _ _ _ h => h) (fun _ _ _ h => h) rfl
              · refine ⟨fun hg K hK => ?_, fun hg h => absurd ((show left _ ev 2 = .bool g from hpre 2 (by decide)).trans (by rw [h])) hg⟩
                have hg1 : g = true := by have h := Eq.trans (Eq.symm (show left _ ev 2 = .bool g from hpre 2 (by decide))) hg; simpa using h
                clear hg
                clear hpre hψ
                go_simp
                exact hK _ _ γ HR.out (fun _ _ _ _ h => h) (fun _ _ _ h => h) (fun _ => rfl)
              · refine ⟨fun hg K hK => ?_, fun hg h => absurd ((show left _ ev 2 = .bool g from hpre 2 (by decide)).trans (by rw [h])) hg⟩
                have hg1 : g = true := by have h := Eq.trans (Eq.symm (show left _ ev 2 = .bool g from hpre 2 (by decide))) hg; simpa using h
                clear hg
                clear hpre hψ
                go_simp
                exact hK _ _ γ HR.out (fun _ _ _ _ h => h) (fun _ _ _ h => h) (fun _ => by rw [(HG.out.2 hg1).1])
              · refine ⟨fun hg K hK => ?_, fun hg h => absurd ((show left _ ev 2 = .bool g from hpre 2 (by decide)).trans (by rw [h])) hg⟩
                have hg1 : g = true := by have h := Eq.trans (Eq.symm (show left _ ev 2 = .bool g from hpre 2 (by decide))) hg; simpa using h
                clear hg
                have q0 : ev (.tmp 29) = _ := hpre 3 (by decide) hg1
                have q1 : ev (.tmp 30) = _ := hpre 4 (by decide) hg1
                have i0 : (0 : Int) ≤ (li : Int) := by omega
                have i1 : (li : Int) < (k : Int) := by have := (HG.out.2 hg1).2.1; omega
                have i2 : li < k := (HG.out.2 hg1).2.1
                clear hpre hψ
                go_simp
                exact hK _ _ γ HR.out (fun _ _ _ _ h => h) (fun _ _ _ h => h) (fun _ => rfl)
              · refine ⟨fun hg K hK => ?_, fun hg h => absurd ((show left _ ev 2 = .bool g from hpre 2 (by decide)).trans (by rw [h])) hg⟩
                have hg1 : g = true := by have h := Eq.trans (Eq.symm (show left _ ev 2 = .bool g from hpre 2 (by decide))) hg; simpa using h
                clear hg
                have q0 : ev (.tmp 31) = _ := hpre 5 (by decide) hg1
                have hst9 := HST.out
                have cy := natsA_at hst9.b (HG.out.2 hg1).2.2.1
                have zy := hst9.b.lt
                clear hst9
                clear hpre hψ
                obtain rfl : W = wx.drew := HR.out
                go_simp
                exact hK _ _ γ rfl (fun _ _ _ _ h => h) (fun _ _ _ h => h) (fun _ => by show _ = Value.int .i64 xi; rw [HXI.out]; simp [List.getD_eq_getElem?_getD])
              · refine ⟨fun hg K hK => ?_, fun hg h => absurd ((show left _ ev 2 = .bool g from hpre 2 (by decide)).trans (by rw [h])) hg⟩
                have hg1 : g = true := by have h := Eq.trans (Eq.symm (show left _ ev 2 = .bool g from hpre 2 (by decide))) hg; simpa using h
                clear hg
                have hbk := HST.out.k.blk (HS.out.1 _).2 NB.out
                have e0 := hbk.cell 0
                simp only [List.getElem?_toArray, List.getElem?_cons_zero] at e0
                have ze := hbk.lt
                clear hbk
                clear hpre hψ
                obtain rfl : W = wx.drew := HR.out
                go_simp
                exact hK _ _ γ rfl (fun _ _ _ _ h => h) (fun _ _ _ h => h) (fun _ => rfl)
              · refine ⟨fun hg K hK => ?_, fun hg h => absurd ((show left _ ev 2 = .bool g from hpre 2 (by decide)).trans (by rw [h])) hg⟩
                have hg1 : g = true := by have h := Eq.trans (Eq.symm (show left _ ev 2 = .bool g from hpre 2 (by decide))) hg; simpa using h
                clear hg
                have hbk := HST.out.k.blk (HS.out.1 _).1 KB.out
                have e0 := hbk.cell 0
                simp only [List.getElem?_toArray, List.getElem?_cons_zero] at e0
                have ze := hbk.lt
                clear hbk
                clear hpre hψ
                obtain rfl : W = wx.drew := HR.out
                go_simp
                exact hK _ _ γ rfl (fun _ _ _ _ h => h) (fun _ _ _ h => h) (fun _ => rfl)
              · refine ⟨fun hg K hK => ?_, fun hg h => absurd ((show left _ ev 2 = .bool g from hpre 2 (by decide)).trans (by rw [h])) hg⟩
                have hg1 : g = true := by have h := Eq.trans (Eq.symm (show left _ ev 2 = .bool g from hpre 2 (by decide))) hg; simpa using h
                clear hg
                have q0 : ev (.tmp 33) = _ := hpre 7 (by decide) hg1
                have q1 : ev (.tmp 34) = _ := hpre 8 (by decide) hg1
                have wv : IntKind.i64.wrap ((n : Int) - (k : Int)) = (n : Int) - (k : Int) := IntWalk.i64_in _ (by have := HK.out; omega)
                clear hpre hψ
                go_simp
                exact hK _ _ γ HR.out (fun _ _ _ _ h => h) (fun _ _ _ h => h) (fun _ => rfl)
              · refine ⟨fun hg K hK => ?_, fun hg h => absurd ((show left _ ev 2 = .bool g from hpre 2 (by decide)).trans (by rw [h])) hg⟩
                have hg1 : g = true := by have h := Eq.trans (Eq.symm (show left _ ev 2 = .bool g from hpre 2 (by decide))) hg; simpa using h
                clear hg
                clear hpre hψ
                go_simp
                exact hK _ _ γ HR.out (fun _ _ _ _ h => h) (fun _ _ _ h => h) (fun _ => by rw [(HG.out.2 hg1).1])
              · refine ⟨fun hg K hK => ?_, fun hg h => absurd ((show left _ ev 2 = .bool g from hpre 2 (by decide)).trans (by rw [h])) hg⟩
                have hg1 : g = true := by have h := Eq.trans (Eq.symm (show left _ ev 2 = .bool g from hpre 2 (by decide))) hg; simpa using h
                clear hg
                have q0 : ev (.tmp 35) = _ := hpre 9 (by decide) hg1
                have q1 : ev (.tmp 36) = _ := hpre 10 (by decide) hg1
                have wv : IntKind.i64.wrap ((n : Int) - (k : Int) + (li : Int)) = (n : Int) - (k : Int) + (li : Int) := IntWalk.i64_in _ (by have := HK.out; have := (HG.out.2 hg1).2.1; omega)
                clear hpre hψ
                go_simp
                exact hK _ _ γ HR.out (fun _ _ _ _ h => h) (fun _ _ _ h => h) (fun _ => rfl)
              · refine ⟨fun hg K hK => ?_, fun hg h => absurd ((show left _ ev 2 = .bool g from hpre 2 (by decide)).trans (by rw [h])) hg⟩
                have hg1 : g = true := by have h := Eq.trans (Eq.symm (show left _ ev 2 = .bool g from hpre 2 (by decide))) hg; simpa using h
                clear hg
                have q0 : ev (.tmp 32) = _ := hpre 6 (by decide) hg1
                have q1 : ev (.tmp 37) = _ := hpre 11 (by decide) hg1
                clear hpre hψ
                go_simp
                exact hK _ _ γ HR.out (fun _ _ _ _ h => h) (fun _ _ _ h => h) (fun _ => by rw [← (HG.out.2 hg1).2.2.2]; rfl)
              · refine ⟨fun hg K hK => ?_, trivial⟩
                clear hg
                have q0 : ev (.tmp 28) = .bool g := hpre 2 (by decide)
                have q1 : g = true → ev (.tmp 38) = .bool d := hpre 12 (by decide)
                have HRW := HR
                clear hpre hψ
                cases g
                · clear q1
                  go_simp
                  exact hK _ _ γ HRW.out (fun _ _ _ _ h => h) (fun _ _ _ h => h) rfl
                · have q1 := q1 rfl
                  go_simp
                  exact hK _ _ γ HRW.out (fun _ _ _ _ h => h) (fun _ _ _ h => h) (by show _ = Value.bool (true && d); simp)
            · intro vs wy γ hvl hR hφ
              have q13 := hφ 13 (by decide)
              have HR := Lib.hid hR
              clear hφ hR
              match vs, hvl with
              | [y0, y1, y2, y3, y4, y5, y6, y7, y8, y9, y10, y11, y12, y13], _ =>
              simp only [List.getD_cons_zero, List.getD_cons_succ] at q13
              obtain rfl : y13 = _ := q13
              obtain ⟨gd, hgd⟩ : ∃ z, z = (g && d) := ⟨_, rfl⟩
              have HGD := Lib.hid hgd
              rw [← hgd]
              obtain rfl := HR.out.symm
              have HST9 : Hid (StI W Sf sb cs wx.drew ∧ J (pre ++ [((A', c'), cs)]) wx.drew) := Lib.hid ⟨⟨HL.out.1.1.k.trans (KpO.below (Below.refl _ _).drew), HL.out.1.1.b.below (Below.refl _ _).drew HL.out.1.1.b.lt⟩, HJ.out.1.grow HL.out.1.2 (Below.refl _ _).drew⟩
              clear HR hgd
              simp [putAll]
              obtain ⟨wd, hwd⟩ : ∃ z, z = wx.drew := ⟨_, rfl⟩
              rw [← hwd] at HST9
              rw [← hwd]
              clear hwd
              cases gd
              · have hgd0 : (g && d) = false := HGD.out.symm
                by_cases hneg : l < 0
                · have HE : Hid (AllC n k ((pre ++ [((A', c'), cs)]).map Prod.snd) ∧ J (pre ++ [((A', c'), cs)]) wd) := Lib.hid ⟨⟨pre.map Prod.snd, cs, by rw [List.map_append]; rfl, by rw [List.map_append]; exact HC.out.2.2.2.2, fun i hi => by
                    have h9 := HC.out.2.2.1
                    rw [h9] at hi ⊢
                    exact HL.out.2 i (by omega) hi⟩, HST9.out.2⟩
                  gi_wp2
                  refine bodyPost_ret (results_none rfl _ _ _) rfl ?_
                  exact ⟨⟨_, rfl⟩, .inl ⟨_, HE.out⟩⟩
                · have hgt : g = true := by rw [← HG.out.1]; exact decide_eq_true (by omega)
                  obtain ⟨el, hlk, hci, hdd⟩ := HG.out.2 hgt
                  have hdf : d = false := by rw [hgt] at hgd0; simpa using hgd0
                  obtain ⟨ci, hcie⟩ : ∃ z, z = cs.getD li 0 := ⟨_, rfl⟩
                  have HLC : Hid (LastC n cs li ∧ ci = cs.getD li 0 ∧ li < k ∧ ci < n) := Lib.hid (by
                    have h9 := HC.out.2.2.1
                    have h8 := of_decide_eq_false (hdd.trans hdf)
                    rw [HXI.out] at h8
                    refine ⟨⟨by omega, fun i h1 h2 => by rw [h9]; exact HL.out.2 i (by omega) (by omega), by rw [h9]; omega⟩, hcie, hlk, ?_⟩
                    rw [hcie]
                    exact HC.out.2.2.2.1.lt li (by omega))
                  rw [← hcie] at hci
                  have HCI := Lib.hid hci
                  obtain ⟨c1, hc1⟩ : ∃ z, z = ci + 1 := ⟨_, rfl⟩
                  have cy := natsA_at HST9.out.1.b hci
                  have zy := HST9.out.1.b.lt
                  have fr := HST9.out.1.b.frozen li
                  have i0 : (0 : Int) ≤ (li : Int) := by omega
                  have i1 : (li : Int) < (k : Int) := by omega
                  have wv : IntKind.i64.wrap ((ci : Int) + 1) = (c1 : Int) := by rw [hc1]; exact IntWalk.i64_in _ (by have := HLC.out; have := HK.out; omega)
                  have wv2 : IntKind.i64.wrap ((li : Int) + 1) = (li : Int) + 1 := IntWalk.i64_in _ (by have := HLC.out; have := HK.out; omega)
                  have hng : ¬ (li : Int) < 0 := by omega
                  obtain ⟨W3, hW3⟩ : ∃ z, z = wd.setCell ⟨sb, li, none⟩ (.int .i64 (c1 : Int)) := ⟨_, rfl⟩
                  have HST3 : Hid (StI W Sf sb (midC cs li (li + 1)) W3 ∧ J (pre ++ [((A', c'), cs)]) W3) := Lib.hid (by
                    have h9 := HC.out.2.2.1
                    have h1 := midC_set (c := cs) (last := li) (j := li) (Nat.le_refl _) (by omega)
                    rw [midC_first, ← hcie, Nat.sub_self, Nat.add_zero, ← hc1] at h1
                    rw [← h1, hW3]
                    exact ⟨HST9.out.1.store (by rw [HSB.out]; exact Nat.le_refl _) li c1, HJ.out.1.cell _ HST9.out.2 (by have := HSB.out; omega) (by have := HSB.out; omega)⟩)
                  clear hgd0 hneg hgt hci hdd hdf hcie hc1 hlk
                  subst el
                  gi_wp2
                  rw [← hW3]
                  clear hW3 cy zy fr i0 i1 wv wv2 hng
                  gi_loopw [7] (fun iv wr => ∃ j : Nat, li < j ∧ j ≤ k ∧ iv = .int .i64 (j : Nat) ∧ Hid (StI W Sf sb (midC cs li j) wr ∧ J (pre ++ [((A', c'), cs)]) wr)) (fun iv _ => k - (intOf iv).toNat)
                  case atStart => exact ⟨li + 1, by omega, by have := HLC.out; omega, by go_num, HST3⟩
                  case round =>
                    obtain ⟨j, hj1, hj2, rfl, HI⟩ := hrel
                    have hbk := HI.out.1.k.blk (HS.out.1 _).1 KB.out
                    have e0 := hbk.cell 0
                    simp only [List.getElem?_toArray, List.getElem?_cons_zero] at e0
                    have ze := hbk.lt
                    clear hbk
                    by_cases hlt : j < k
                    · obtain ⟨j1, hj9⟩ : ∃ z, z = j - 1 := ⟨_, rfl⟩
                      obtain ⟨pv, hpv⟩ : ∃ z, z = ci + 1 + (j - 1 - li) := ⟨_, rfl⟩
                      obtain ⟨nv, hnv⟩ : ∃ z, z = ci + 1 + (j - li) := ⟨_, rfl⟩
                      have hcl := HC.out.2.2.1
                      have hg1 : (midC cs li j)[j1]? = some pv := by
                        rw [midC_get (by omega), if_neg (by omega), if_pos (by omega), hpv, HLC.out.2.1, hj9]
                      obtain ⟨y, hy⟩ : ∃ y, (midC cs li j)[j]? = some y := ⟨_, midC_get (by omega)⟩
                      have cy := natsA_at HI.out.1.b hg1
                      have cz := natsA_at HI.out.1.b hy
                      have zy := HI.out.1.b.lt
                      have fr := HI.out.1.b.frozen j
                      have i0 : (0 : Int) ≤ (j : Int) := by omega
                      have i1 : (j : Int) < (k : Int) := by omega
                      have i2 : (0 : Int) ≤ (j1 : Int) := by omega
                      have i3 : (j1 : Int) < (k : Int) := by omega
                      have wj : IntKind.i64.wrap ((j : Int) - 1) = (j1 : Int) := by rw [hj9, show (((j - 1 : Nat) : Int)) = (j : Int) - 1 by omega]; exact IntWalk.i64_in _ (by have := HK.out; omega)
                      have wn : IntKind.i64.wrap ((pv : Int) + 1) = (nv : Int) := by rw [show ((nv : Nat) : Int) = (pv : Int) + 1 by omega]; exact IntWalk.i64_in _ (by have := HK.out; have := HLC.out; omega)
                      have wq : IntKind.i64.wrap ((j : Int) + 1) = (j : Int) + 1 := IntWalk.i64_in _ (by have := HK.out; omega)
                      obtain ⟨W', hW'⟩ : ∃ z, z = wr.setCell ⟨sb, j, none⟩ (.int .i64 (nv : Int)) := ⟨_, rfl⟩
                      have HN9 : Hid (StI W Sf sb (midC cs li (j + 1)) W' ∧ J (pre ++ [((A', c'), cs)]) W') := Lib.hid (by
                        have h1 := midC_set (c := cs) (last := li) (j := j) (by omega) (by omega)
                        rw [← HLC.out.2.1, ← hnv] at h1
                        rw [← h1, hW']
                        exact ⟨HI.out.1.store (by rw [HSB.out]; exact Nat.le_refl _) j nv, HJ.out.1.cell _ HI.out.2 (by have := HSB.out; omega) (by have := HSB.out; omega)⟩)
                      have HJ9 : Hid (li < j ∧ j < k) := Lib.hid ⟨hj1, hlt⟩
                      clear hj1 hj2 hlt hpv hnv hcl hg1 hy hj9
                      gi_wp2
                      rw [← hW']
                      go_roundw
                      case rel => exact ⟨j + 1, by have := HJ9.out; omega, by have := HJ9.out; omega, by go_num, HN9⟩
                      case measure => have := HJ9.out; simp [intOf]; omega
                    · obtain rfl : k = j := by omega
                      have hcl := HC.out.2.2.1
                      have HN9 : Hid ((∃ (cs : List Nat) (pre : List SetE), StI W Sf sb cs wr ∧ J pre wr ∧ cs.length = k ∧ Vc n cs ∧ UpC n k (pre.map Prod.snd ++ [cs])) ∧ restC (readC wr sb k) < restC cs) := Lib.hid (by
                        have h1 := midC_last (c := cs) (last := li) (by omega)
                        rw [hcl] at h1
                        have h2 := nxtC_len (c := cs) (last := li) (by omega)
                        have h3 := HI.out
                        rw [h1] at h3
                        refine ⟨⟨_, _, h3.1, h3.2, by rw [h2, hcl], nxtC_ok HC.out.2.2.2.1 HLC.out.1, by rw [List.map_append]; exact .next HC.out.2.2.2.2 HLC.out.1⟩, ?_⟩
                        have h4 := readC_is h3.1.b
                        rw [h2, hcl] at h4
                        rw [h4]
                        exact rest_next HK.out.2 HC.out.2.2.2.1 HLC.out.1)
                      clear hcl hj1 hj2 hlt
                      gi_wp2
                      go_roundw
                      case rel => exact Lib.hid HN9.out.1
                      case measure => rw [HME.out]; exact HN9.out.2
              · have HN9 : Hid (-1 ≤ l - 1 ∧ l - 1 < (k : Int) ∧ IntKind.i64.wrap (l - 1) = l - 1 ∧ 0 ≤ l ∧ ∀ i : Nat, l - 1 < (i : Int) → i < k → cs.getD i 0 + k = n + i) := Lib.hid (by
                  have h1 := HGD.out
                  obtain ⟨hgt, hdt⟩ : g = true ∧ d = true := by simpa using h1.symm
                  have h2 := HG.out.2 hgt
                  have h3 := HLB.out
                  have h4 := of_decide_eq_true (h2.2.2.2.trans hdt)
                  rw [HXI.out] at h4
                  refine ⟨by omega, by omega, IntWalk.i64_in _ (by have := HK.out; omega), by omega, fun i hi hik => ?_⟩
                  by_cases e : i = li
                  · subst e; omega
                  · exact HL.out.2 i (by omega) hik)
                have wl := HN9.out.2.2.1
                gi_wp2
                go_roundw
                case rel => exact ⟨l - 1, rfl, HN9.out.1, HN9.out.2.1, Lib.hid ⟨HST9.out, HN9.out.2.2.2.2⟩⟩
                case measure => have := HN9.out; simp [intOf]; omega
        · have HF := Lib.hid hJx2
          clear hJx2
          gi_wp2
          go_end0
          exact ⟨⟨_, rfl⟩, .inr ⟨_, HF.out⟩⟩
end Go.Proofs.Ytcecbohaajocfaa
