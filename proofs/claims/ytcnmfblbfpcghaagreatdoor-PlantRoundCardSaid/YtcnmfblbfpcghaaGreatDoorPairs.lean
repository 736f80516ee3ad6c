/- The law's samePairs. -/
import Derived.Test.YtcnmfblbfpcghaaGreatDoorExample
import Derived.BigQuiet
import Derived.Laws.StructEq
import Derived.Laws.Tables
import Derived.Laws.Cover2

set_option linter.unusedSimpArgs false
set_option linter.unusedVariables false
namespace Go.Proofs.YtcnmfblbfpcghaaGreatDoor
open Go.RowKit

def encP (x : Int × Int) : List Value := [.int .i64 x.1, .int .i64 x.2]
theorem cellP {w : World} {b o : Nat} {x : Int × Int} (h : ∀ j u, (encP x)[j]? = some u → w.cell? ⟨b, o + j, none⟩ = some u) : w.cell? ⟨b, o, none⟩ = some (.int .i64 x.1) ∧ w.cell? ⟨b, o + 1, none⟩ = some (.int .i64 x.2) := ⟨h 0 _ rfl, h 1 _ rfl⟩
/-- Two pairs are compared number by number. -/
@[go_sem] theorem eqPair (a b c d : Int) (w : World) : (Op.equalIn 10000 86 (.agg #[.int .i64 a, .int .i64 b]) (.agg #[.int .i64 c, .int .i64 d])).run Tryz.prog w = .ok (a == c && b == d) w := by
  have u3 := Tryz.underlying3
  have a3 := Tryz.isAgg3
  have z3 := Tryz.sizeOf3
  rw [show (10000 : Nat) = 9999 + 1 from rfl, Op.equalIn]
  simp only [Sem.run_bind, run_underlying Tryz.underlying86, Result.andThen_ok]
  simp only [Std.Legacy.Range.forIn_eq_forIn_range', Std.Legacy.Range.size, Nat.sub_zero, Nat.add_sub_cancel, Nat.div_one, List.range'_succ, List.range'_zero, List.forIn_cons, List.forIn_nil]
  go_simp
  by_cases h1 : a = c <;> by_cases h2 : b = d <;> simp [h1, h2]
theorem samePairs_any (A A' : Option Addr) (n n' c c' : Nat) (l m : List (Int × Int)) (w : World) (hl : Rd w w.heap.size 2 encP A n l) (hm : Rd w w.heap.size 2 encP A' n' m) (hn : n ≤ 9223372036854775807) (hn' : n' ≤ 9223372036854775807) :
    Calls Tryz.prog 37 #[.slice A n c, .slice A' n' c'] w fun e w' => e = .returned (.bool (sameL l m)) ∧ Below w.heap.size w w' := by
  have HL := Lib.hid hl
  have HM := Lib.hid hm
  have e1 := Lib.hid hl.1
  have e2 := Lib.hid hm.1
  clear hl hm
  go_enter Tryz.func37, Tryz.ntmps37
  by_cases hq : n = n'
  · subst hq
    go_wp2
    go_loopw [5] (fun i wr => ∃ k : Nat, k ≤ n ∧ i = .int .i64 k ∧ Below w.heap.size w wr ∧ Hid (∀ j, j < k → l[j]? = m[j]?)) (fun i _ => n - (intOf i).toNat)
    case atStart => exact ⟨0, by omega, rfl, Below.refl _ _, fun j hj => absurd hj (by omega)⟩
    case round =>
      obtain ⟨k, hk, rfl, hB, hE⟩ := hrel
      have hz' := hB.size
      by_cases hlt : k < n
      · obtain ⟨b, off, x, rfl, hb, hx, hcx⟩ := (HL.out.below hB).at_ hlt
        obtain ⟨b', off', y, rfl, hb', hy, hcy⟩ := (HM.out.below hB).at_ hlt
        obtain ⟨x1, x2⟩ := x
        obtain ⟨y1, y2⟩ := y
        obtain ⟨c0, c0'⟩ := cellP hcx
        obtain ⟨c1, c1'⟩ := cellP hcy
        have HX := Lib.hid hx
        have HY := Lib.hid hy
        have hk0 : (0 : Int) ≤ (k : Int) := by omega
        have hkn : (k : Int) < (n : Int) := by omega
        have hkw : IntKind.i64.wrap (k : Int) = (k : Int) := IntWalk.i64_in _ (by omega)
        clear hx hy hcx hcy
        by_cases hxy : (x1, x2) = (y1, y2)
        · cases hxy
          have hE' : Hid (∀ j, j < k + 1 → l[j]? = m[j]?) := fun j hj => by
            rcases Nat.lt_or_ge j k with h | h
            · exact hE.out j h
            · obtain rfl : j = k := by omega
              rw [HX.out, HY.out]
          go_wp2
          go_quiet (fail)
          go_wp2
          go_roundw
          case rel => exact ⟨k + 1, by omega, by go_num, by (repeat' (first | (with_reducible exact Below.refl _ _) | (with_reducible assumption) | (with_reducible refine below_drewN ?_ _) | (with_reducible refine below_after (by assumption) ?_ ?_) | (with_reducible refine Below.drew ?_) | (with_reducible refine Below.alloc ?_ ?_ _) | (with_reducible refine Below.setCell ?_ ?_ _) | omega | (simp; omega) | (simp; done))), hE'⟩
          case measure => simp [intOf]; omega
        · have hd : sameL l m = false := by
            unfold sameL
            rw [decide_eq_false_iff_not]
            intro h
            have h1 := HX.out
            rw [h, HY.out] at h1
            simp only [Option.some.injEq] at h1
            exact hxy h1.symm
          by_cases h1 : x1 = y1
          · subst h1
            have h2 : ¬ x2 = y2 := fun h => hxy (by rw [h])
            go_wp2
            go_quiet (fail)
            go_wp2
            all_goals first | (rename_i hz; exfalso; simp at hz; omega) | (go_ret; exact ⟨ret_bool hd.symm, by (repeat' (first | (with_reducible exact Below.refl _ _) | (with_reducible assumption) | (with_reducible refine below_drewN ?_ _) | (with_reducible refine below_after (by assumption) ?_ ?_) | (with_reducible refine Below.drew ?_) | (with_reducible refine Below.alloc ?_ ?_ _) | (with_reducible refine Below.setCell ?_ ?_ _) | omega | (simp; omega) | (simp; done)))⟩)
          · go_wp2
            go_quiet (fail)
            go_wp2
            all_goals first | (rename_i hz; exfalso; simp at hz; omega) | (go_ret; exact ⟨ret_bool hd.symm, by (repeat' (first | (with_reducible exact Below.refl _ _) | (with_reducible assumption) | (with_reducible refine below_drewN ?_ _) | (with_reducible refine below_after (by assumption) ?_ ?_) | (with_reducible refine Below.drew ?_) | (with_reducible refine Below.alloc ?_ ?_ _) | (with_reducible refine Below.setCell ?_ ?_ _) | omega | (simp; omega) | (simp; done)))⟩)
      · have hd : sameL l m = true := by
          unfold sameL
          rw [decide_eq_true_iff]
          apply List.ext_getElem?
          intro j
          rcases Nat.lt_or_ge j k with h | h
          · exact hE.out j h
          · rw [List.getElem?_eq_none (by rw [e1.out]; omega), List.getElem?_eq_none (by rw [e2.out]; omega)]
        go_wp2
        go_ret
        exact ⟨ret_bool hd.symm, hB⟩
  · have hd : sameL l m = false := by
      unfold sameL
      rw [decide_eq_false_iff_not]
      intro h
      apply hq
      rw [← e1.out, ← e2.out, h]
    go_wp2
    go_ret
    exact ⟨ret_bool hd.symm, Below.refl _ _⟩

end Go.Proofs.YtcnmfblbfpcghaaGreatDoor

/- The law's sameIslands. -/
namespace Go.Proofs.YtcnmfblbfpcghaaGreatDoor
open Go.RowKit

theorem SameInts_quiet (A A' : Option Addr) (n n' c c' : Nat) (l m : List Int) (w : World) (hl : Rd w w.heap.size 1 encI A n l) (hm : Rd w w.heap.size 1 encI A' n' m) (hn : n ≤ 9223372036854775807) (hn' : n' ≤ 9223372036854775807) :
    Calls Tryz.prog 96 #[.slice A n c, .slice A' n' c'] w fun e w' => e = .returned (.bool (sameL l m)) ∧ ∃ q, w' = w.drewN q := by
  have HL := Lib.hid hl
  have HM := Lib.hid hm
  have e1 := Lib.hid hl.1
  have e2 := Lib.hid hm.1
  clear hl hm
  go_enter Tryz.func96, Tryz.ntmps96
  by_cases hq : n = n'
  · subst hq
    go_wp2
    go_loopw [5] (fun i wr => ∃ k : Nat, k ≤ n ∧ i = .int .i64 k ∧ (∃ q, wr = w.drewN q) ∧ Hid (∀ j, j < k → l[j]? = m[j]?)) (fun i _ => n - (intOf i).toNat)
    case atStart => exact ⟨0, by omega, rfl, ⟨0, rfl⟩, fun j hj => absurd hj (by omega)⟩
    case round =>
      obtain ⟨k, hk, rfl, ⟨q, rfl⟩, hE⟩ := hrel
      by_cases hlt : k < n
      · obtain ⟨b, off, x, rfl, hb, hx, hcx⟩ := HL.out.at_ hlt
        obtain ⟨b', off', y, rfl, hb', hy, hcy⟩ := HM.out.at_ hlt
        have c0 := cellI hcx
        have c1 := cellI hcy
        have HX := Lib.hid hx
        have HY := Lib.hid hy
        have hk0 : (0 : Int) ≤ (k : Int) := by omega
        have hkn : (k : Int) < (n : Int) := by omega
        have hkw : IntKind.i64.wrap (k : Int) = (k : Int) := IntWalk.i64_in _ (by omega)
        clear hx hy hcx hcy
        by_cases hxy : x = y
        · subst hxy
          have hE' : Hid (∀ j, j < k + 1 → l[j]? = m[j]?) := fun j hj => by
            rcases Nat.lt_or_ge j k with h | h
            · exact hE.out j h
            · obtain rfl : j = k := by omega
              rw [HX.out, HY.out]
          go_wp2
          go_quiet (fail)
          go_wp2
          go_roundw
          case rel => exact ⟨k + 1, by omega, by go_num, (by first | exact ⟨_, rfl⟩ | exact ⟨_, by rw [World.drewN_drewN]⟩ | exact ⟨0, rfl⟩), hE'⟩
          case measure => simp [intOf]; omega
        · have hd : sameL l m = false := by
            unfold sameL
            rw [decide_eq_false_iff_not]
            intro h
            have h1 := HX.out
            rw [h, HY.out] at h1
            simp only [Option.some.injEq] at h1
            exact hxy h1.symm
          go_wp2
          go_quiet (fail)
          go_wp2
          go_ret
          exact ⟨ret_bool hd.symm, (by first | exact ⟨_, rfl⟩ | exact ⟨_, by rw [World.drewN_drewN]⟩ | exact ⟨0, rfl⟩)⟩
      · have hd : sameL l m = true := by
          unfold sameL
          rw [decide_eq_true_iff]
          apply List.ext_getElem?
          intro j
          rcases Nat.lt_or_ge j k with h | h
          · exact hE.out j h
          · rw [List.getElem?_eq_none (by rw [e1.out]; omega), List.getElem?_eq_none (by rw [e2.out]; omega)]
        go_wp2
        go_ret
        exact ⟨ret_bool hd.symm, (by first | exact ⟨_, rfl⟩ | exact ⟨_, by rw [World.drewN_drewN]⟩ | exact ⟨0, rfl⟩)⟩
  · have hd : sameL l m = false := by
      unfold sameL
      rw [decide_eq_false_iff_not]
      intro h
      apply hq
      rw [← e1.out, ← e2.out, h]
    go_wp2
    go_ret
    exact ⟨ret_bool hd.symm, ⟨0, rfl⟩⟩


/-- An island; where its lists lie. -/
structure Isle where
  bA : Option Addr
  (bn bc : Nat)
  bl : List Int
  sA : Option Addr
  (sn sc : Nat)
  sl : List Int
def Isle.enc (x : Isle) : List Value := [.slice x.bA x.bn x.bc, .slice x.sA x.sn x.sc]
def Isle.two (x : Isle) : List Int × List Int := (x.bl, x.sl)
/-- A list of islands in memory. -/
structure IslesIn (w : World) (B : Nat) (A : Option Addr) (n : Nat) (l : List Isle) : Prop where
  rd : Rd w B 2 Isle.enc A n l
  fit : n ≤ 9223372036854775807
  bus : ∀ x ∈ l, Rd w B 1 encI x.bA x.bn x.bl ∧ x.bn ≤ 9223372036854775807
  src : ∀ x ∈ l, Rd w B 1 encI x.sA x.sn x.sl ∧ x.sn ≤ 9223372036854775807
theorem Isle.cells {w : World} {b o : Nat} {x : Isle} (h : ∀ j u, x.enc[j]? = some u → w.cell? ⟨b, o + j, none⟩ = some u) : w.cell? ⟨b, o, none⟩ = some (.slice x.bA x.bn x.bc) ∧ w.cell? ⟨b, o + 1, none⟩ = some (.slice x.sA x.sn x.sc) := ⟨h 0 _ rfl, h 1 _ rfl⟩
/-- The cells that a round reads. -/
theorem IslesHeld.next {W w w' : World} {b o b' o' : Nat} {v1 v2 v3 v4 : Value} (h : Below W.heap.size W w ∧ w.cell? ⟨b, o, none⟩ = some v1 ∧ w.cell? ⟨b, o + 1, none⟩ = some v2 ∧ w.cell? ⟨b', o', none⟩ = some v3 ∧ w.cell? ⟨b', o' + 1, none⟩ = some v4) (hb : Below w.heap.size w w') :
    Below W.heap.size W w' ∧ w'.cell? ⟨b, o, none⟩ = some v1 ∧ w'.cell? ⟨b, o + 1, none⟩ = some v2 ∧ w'.cell? ⟨b', o', none⟩ = some v3 ∧ w'.cell? ⟨b', o' + 1, none⟩ = some v4 := by
  obtain ⟨h0, h1, h2, h3, h4⟩ := h
  exact ⟨h0.trans (hb.mono h0.size), (hb.cell (block_of_cell h1)).trans h1, (hb.cell (block_of_cell h2)).trans h2, (hb.cell (block_of_cell h3)).trans h3, (hb.cell (block_of_cell h4)).trans h4⟩
def sameIsl (l m : List Isle) : Bool := sameL (l.map Isle.two) (m.map Isle.two)
set_option maxRecDepth 100000 in
set_option maxHeartbeats 4000000 in
theorem sameIslands_any (A A' : Option Addr) (n n' c c' : Nat) (l m : List Isle) (w : World) (hl : IslesIn w w.heap.size A n l) (hm : IslesIn w w.heap.size A' n' m) :
    Calls Tryz.prog 36 #[.slice A n c, .slice A' n' c'] w fun e w' => e = .returned (.bool (sameIsl l m)) ∧ Below w.heap.size w w' := by
  have HL := Lib.hid hl
  have HM := Lib.hid hm
  have e1 := Lib.hid hl.rd.1
  have e2 := Lib.hid hm.rd.1
  have hn := hl.fit
  have hn' := hm.fit
  clear hl hm
  go_enter Tryz.func36, Tryz.ntmps36
  by_cases hq : n = n'
  · subst hq
    go_wp2
    go_loopw [5] (fun i wr => ∃ k : Nat, k ≤ n ∧ i = .int .i64 k ∧ Below w.heap.size w wr ∧ Hid (∀ j, j < k → (l.map Isle.two)[j]? = (m.map Isle.two)[j]?)) (fun i _ => n - (intOf i).toNat)
    case atStart => exact ⟨0, by omega, rfl, Below.refl _ _, fun j hj => absurd hj (by omega)⟩
    case round =>
      obtain ⟨k, hk, rfl, hB, hE⟩ := hrel
      have hz' := hB.size
      by_cases hlt : k < n
      · obtain ⟨b, off, x, rfl, hb, hx, hcx⟩ := (HL.out.rd.below hB).at_ hlt
        obtain ⟨b', off', y, rfl, hb', hy, hcy⟩ := (HM.out.rd.below hB).at_ hlt
        obtain ⟨c0, c0'⟩ := Isle.cells hcx
        obtain ⟨c1, c1'⟩ := Isle.cells hcy
        have bx := HL.out.bus x (List.mem_of_getElem? hx)
        have sx := HL.out.src x (List.mem_of_getElem? hx)
        have by_ := HM.out.bus y (List.mem_of_getElem? hy)
        have sy := HM.out.src y (List.mem_of_getElem? hy)
        have rb : ∀ (W : World) {A : Option Addr} {n : Nat} {l : List Int}, Rd w w.heap.size 1 encI A n l → Below w.heap.size w W → Rd W W.heap.size 1 encI A n l := fun W _ _ _ h hW => (h.below hW).more hW.size
        have KB := Lib.hid (fun q => Calls.quiet_of (SameInts_quiet x.bA y.bA x.bn y.bn x.bc y.bc x.bl y.bl (wr.drewN q) (rb _ bx.1 (below_drewN hB _)) (rb _ by_.1 (below_drewN hB _)) bx.2 by_.2))
        have KS := Lib.hid (fun q => Calls.quiet_of (SameInts_quiet x.sA y.sA x.sn y.sn x.sc y.sc x.sl y.sl (wr.drewN q) (rb _ sx.1 (below_drewN hB _)) (rb _ sy.1 (below_drewN hB _)) sx.2 sy.2))
        have HX := Lib.hid hx
        have HY := Lib.hid hy
        have hk0 : (0 : Int) ≤ (k : Int) := by omega
        have hkn : (k : Int) < (n : Int) := by omega
        have hkw : IntKind.i64.wrap (k : Int) = (k : Int) := IntWalk.i64_in _ (by omega)
        obtain ⟨q1, h1⟩ : ∃ q, sameL x.bl y.bl = q := ⟨_, rfl⟩
        obtain ⟨q2, h2⟩ : ∃ q, sameL x.sl y.sl = q := ⟨_, rfl⟩
        rw [h1] at KB
        rw [h2] at KS
        have H1 := Lib.hid h1
        have H2 := Lib.hid h2
        clear hx hy hcx hcy bx sx by_ sy h1 h2
        have hne : (x.bl, x.sl) ≠ (y.bl, y.sl) → sameIsl l m = false := by
          intro hne
          unfold sameIsl sameL
          rw [decide_eq_false_iff_not]
          intro h
          have h1 : (l.map Isle.two)[k]? = some x.two := by rw [List.getElem?_map, HX.out]; rfl
          rw [h, List.getElem?_map, HY.out] at h1
          simp only [Option.map_some, Option.some.injEq] at h1
          exact hne h1.symm
        cases q1
        · have hd := hne (fun h => by have h1 := H1.out; rw [(Prod.mk.inj h).1] at h1; simp [sameL] at h1)
          clear hne
          go_wp2
          go_quiet ((go_at_call 96; exact KB.out _))
          go_wp2
          go_ret
          exact ⟨ret_bool hd.symm, by (repeat' (first | (with_reducible exact Below.refl _ _) | (with_reducible assumption) | (with_reducible refine below_drewN ?_ _) | (with_reducible refine below_after (by assumption) ?_ ?_) | (with_reducible refine Below.drew ?_) | (with_reducible refine Below.alloc ?_ ?_ _) | (with_reducible refine Below.setCell ?_ ?_ _) | omega | (simp; omega) | (simp; done)))⟩
        · cases q2
          · have hd := hne (fun h => by have h1 := H2.out; rw [(Prod.mk.inj h).2] at h1; simp [sameL] at h1)
            clear hne
            go_wp2
            go_quiet (first | (go_at_call 96; with_reducible exact KB.out _) | (go_at_call 96; with_reducible exact KS.out _))
            go_wp2
            go_ret
            exact ⟨ret_bool hd.symm, by (repeat' (first | (with_reducible exact Below.refl _ _) | (with_reducible assumption) | (with_reducible refine below_drewN ?_ _) | (with_reducible refine below_after (by assumption) ?_ ?_) | (with_reducible refine Below.drew ?_) | (with_reducible refine Below.alloc ?_ ?_ _) | (with_reducible refine Below.setCell ?_ ?_ _) | omega | (simp; omega) | (simp; done)))⟩
          · clear hne
            have hE' : Hid (∀ j, j < k + 1 → (l.map Isle.two)[j]? = (m.map Isle.two)[j]?) := fun j hj => by
              rcases Nat.lt_or_ge j k with h | h
              · exact hE.out j h
              · obtain rfl : j = k := by omega
                rw [List.getElem?_map, List.getElem?_map, HX.out, HY.out]
                have h1 := H1.out
                have h2 := H2.out
                unfold sameL at h1 h2
                rw [decide_eq_true_iff] at h1 h2
                simp only [Option.map_some, Isle.two, h1, h2]
            go_wp2
            go_quiet (first | (go_at_call 96; with_reducible exact KB.out _) | (go_at_call 96; with_reducible exact KS.out _))
            go_wp2
            go_roundw
            case rel => exact ⟨k + 1, by omega, by go_num, by (repeat' (first | (with_reducible exact Below.refl _ _) | (with_reducible assumption) | (with_reducible refine below_drewN ?_ _) | (with_reducible refine below_after (by assumption) ?_ ?_) | (with_reducible refine Below.drew ?_) | (with_reducible refine Below.alloc ?_ ?_ _) | (with_reducible refine Below.setCell ?_ ?_ _) | omega | (simp; omega) | (simp; done))), hE'⟩
            case measure => simp [intOf]; omega
      · have hd : sameIsl l m = true := by
          unfold sameIsl sameL
          rw [decide_eq_true_iff]
          apply List.ext_getElem?
          intro j
          rcases Nat.lt_or_ge j k with h | h
          · exact hE.out j h
          · rw [List.getElem?_eq_none (by rw [List.length_map, e1.out]; omega), List.getElem?_eq_none (by rw [List.length_map, e2.out]; omega)]
        go_wp2
        go_ret
        exact ⟨ret_bool hd.symm, hB⟩
  · have hd : sameIsl l m = false := by
      unfold sameIsl sameL
      rw [decide_eq_false_iff_not]
      intro h
      apply hq
      have := congrArg List.length h
      rw [List.length_map, List.length_map] at this
      rw [← e1.out, ← e2.out, this]
    go_wp2
    go_ret
    exact ⟨ret_bool hd.symm, Below.refl _ _⟩
end Go.Proofs.YtcnmfblbfpcghaaGreatDoor
