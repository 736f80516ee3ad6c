/- The kit's CopyLink and CopyLinks. -/
import Derived.Test.YtnngdcidopaabaaGreatDoorRow
import Derived.Test.YtnngdcidopaabaaGreatDoorIslW
import Derived.Test.YtnngdcidopaabaaGreatDoorFree6
import Derived.Test.YtnngdcidopaabaaGreatDoorLosesP

set_option linter.unusedSimpArgs false
set_option linter.unusedVariables false
namespace Go.Proofs.YtnngdcidopaabaaGreatDoor
open Go.RowKit

theorem linkInfo : (Tryz.prog.info? 73).map (fun i => (i.zero, i.size, i.bytes)) = some (some (.agg #[.int .i64 0, .int .i64 0, .int .i64 0, .int .i64 0, .int .i64 0, .slice none 0 0]), 6, 64) := by kernel_rfl
theorem store6 {W : World} {g : Nat} {T : TypeId} {c0 c1 c2 c3 c4 c5 : Value} (h : Blk W g T #[c0, c1, c2, c3, c4, c5]) (v0 v1 v2 v3 v4 v5 : Value) :
    Blk ((((((W.setCell ⟨g, 0, none⟩ v0).setCell ⟨g, 1, none⟩ v1).setCell ⟨g, 2, none⟩ v2).setCell ⟨g, 3, none⟩ v3).setCell ⟨g, 4, none⟩ v4).setCell ⟨g, 5, none⟩ v5) g T #[v0, v1, v2, v3, v4, v5] ∧
    W.grownBy ((((((W.setCell ⟨g, 0, none⟩ v0).setCell ⟨g, 1, none⟩ v1).setCell ⟨g, 2, none⟩ v2).setCell ⟨g, 3, none⟩ v3).setCell ⟨g, 4, none⟩ v4).setCell ⟨g, 5, none⟩ v5) (some g) := by
  refine ⟨?_, ?_⟩
  · have k := (((((h.set_ 0 v0).set_ 1 v1).set_ 2 v2).set_ 3 v3).set_ 4 v4).set_ 5 v5
    simpa only [List.setIfInBounds_toArray, List.set_cons_zero, List.set_cons_succ] using k
  · have k0 := only_setCell (World.grownBy.refl W (some g)) (p := ⟨g, 0, none⟩) rfl v0
    have k1 := only_setCell k0 (p := ⟨g, 1, none⟩) rfl v1
    have k2 := only_setCell k1 (p := ⟨g, 2, none⟩) rfl v2
    have k3 := only_setCell k2 (p := ⟨g, 3, none⟩) rfl v3
    have k4 := only_setCell k3 (p := ⟨g, 4, none⟩) rfl v4
    exact only_setCell k4 (p := ⟨g, 5, none⟩) rfl v5
def lCells (x : Lnk) : Array Value := #[.int .i64 x.a, .int .i64 x.b, .int .i64 x.kind, .int .i64 x.most, .int .i64 x.ohm, .slice x.tA x.tn x.tc]
def Lnk.at_ (x : Lnk) (A : Option Addr) (c : Nat) : Lnk := { x with tA := A, tc := c }
def TripOwn (W : World) (base : Nat) (x : Lnk) : Prop := W.ownsRow base 125 2 (.slice x.tA x.tn x.tc) x.tn (x.trip.flatMap Trp.enc)
structure LkR (w : World) (bx rx : Nat) (x : Lnk) (W : World) : Prop where
  low : Below w.heap.size w W
  box : Blk W bx 73 (lCells x)
  res : ∃ c0 c1 c2 c3 c4 c5, Blk W rx 73 #[c0, c1, c2, c3, c4, c5]
def lkPhi (w : World) (bx rx : Nat) (x : Lnk) : Nat → Value → World → (Nat → Nat) → Prop
  | 0, v, _, _ => v = .pointer (some ⟨bx, 0, none⟩)
  | 1, v, _, _ => v = .int .i64 x.a
  | 2, v, _, _ => v = .pointer (some ⟨bx, 1, none⟩)
  | 3, v, _, _ => v = .int .i64 x.b
  | 4, v, _, _ => v = .pointer (some ⟨bx, 2, none⟩)
  | 5, v, _, _ => v = .int .i64 x.kind
  | 6, v, _, _ => v = .pointer (some ⟨bx, 3, none⟩)
  | 7, v, _, _ => v = .int .i64 x.most
  | 8, v, _, _ => v = .pointer (some ⟨bx, 4, none⟩)
  | 9, v, _, _ => v = .int .i64 x.ohm
  | 10, v, _, _ => v = .pointer (some ⟨bx, 5, none⟩)
  | 11, v, _, _ => v = .slice x.tA x.tn x.tc
  | 12, v, W, _ => ∃ A c, v = .slice A x.tn c ∧ TripOwn W w.heap.size (x.at_ A c)
  | 13, v, W, _ => ∃ A c, v = .agg (lCells (x.at_ A c)) ∧ TripOwn W w.heap.size (x.at_ A c)
  | 14, _, W, _ => ∃ A c, Blk W rx 73 (lCells (x.at_ A c)) ∧ TripOwn W w.heap.size (x.at_ A c)
  | _, _, _, _ => True
theorem lkPhi_kept {w : World} {bx rx : Nat} {x : Lnk} {W W' : World} {γ γ' : Nat → Nat} (hb : Below W.heap.size W W') (j : Nat) (v : Value) (hv : lkPhi w bx rx x j v W γ) : lkPhi w bx rx x j v W' γ' := by
  have kt : ∀ y, TripOwn W w.heap.size y → TripOwn W' w.heap.size y := fun y h => World.ownsRow.kept h (grown_of_below hb) (by by_cases hu : (Value.slice y.tA y.tn y.tc).ownBlock = none; exact .inl hu; exact .inr hu)
  unfold lkPhi at hv ⊢
  split at hv <;> first | exact hv | trivial | (obtain ⟨A, c, h1, h2⟩ := hv; first | exact ⟨A, c, h1, kt _ h2⟩ | exact ⟨A, c, Blk.below h1 hb (Blk.lt h1), kt _ h2⟩)
theorem TripOwn.kept {W W' : World} {base rx : Nat} {x : Lnk} {T : TypeId} {cs : Array Value} (h : TripOwn W base x) (hk : W.grownBy W' (some rx)) (hb : Blk W rx T cs) (hT : T ≠ 125) : TripOwn W' base x :=
  World.ownsRow.kept h hk (.inr fun e => own_ne h hb hT e.symm)
theorem TripOwn.next {W W' : World} {base : Nat} {x : Lnk} (h : TripOwn W base x) (hb : Below W.heap.size W W') : TripOwn W' base x :=
  World.ownsRow.kept h (grown_of_below hb) (by by_cases hu : (Value.slice x.tA x.tn x.tc).ownBlock = none; exact .inl hu; exact .inr hu)
theorem lkPhi_store {w : World} {bx rx : Nat} {x : Lnk} {W W' : World} {γ γ' : Nat → Nat} {cs : Array Value} (hk : W.grownBy W' (some rx)) (hb : Blk W rx 73 cs) (j : Nat) (v : Value) (hj : j ≠ 14) (hv : lkPhi w bx rx x j v W γ) : lkPhi w bx rx x j v W' γ' := by
  unfold lkPhi at hv ⊢
  split at hv <;> first | exact hv | trivial | exact absurd rfl hj | (obtain ⟨A, c, h1, h2⟩ := hv; exact ⟨A, c, h1, h2.kept hk hb (by decide)⟩)
set_option maxRecDepth 100000 in
set_option maxHeartbeats 4000000 in
theorem CopyLink_any (x : Lnk) (w : World) (ht : Rd w w.heap.size 2 Trp.enc x.tA x.tn x.trip) (hn : x.tn ≤ 1000000) :
    Calls Tryz.prog 88 #[x.val] w fun e w' => ∃ (A : Option Addr) (c : Nat), e = .returned (x.at_ A c).val ∧ TripOwn w' w.heap.size (x.at_ A c) ∧ Below w.heap.size w w' := by
  have HT := Lib.hid ht
  have CT := Lib.hid (fun W hr => CopyTrips_any x.tA x.tn x.tc x.trip W hr hn)
  have R0 : Hid (LkR w w.heap.size (w.heap.size + 1) x ((w.alloc (.cells (lCells x) 73)).alloc (.cells #[.int .i64 0, .int .i64 0, .int .i64 0, .int .i64 0, .int .i64 0, .slice none 0 0] 73)).drew) := by
    refine ⟨by (repeat' (first | (with_reducible exact Below.refl _ _) | (with_reducible assumption) | (with_reducible refine below_drewN ?_ _) | (with_reducible refine below_after (by assumption) ?_ ?_) | (with_reducible refine Below.drew ?_) | (with_reducible refine Below.alloc ?_ ?_ _) | (with_reducible refine Below.setCell ?_ ?_ _) | omega | (simp; omega) | (simp; done))), Blk.alloc (heap_alloc_new w _) _, .int .i64 0, .int .i64 0, .int .i64 0, .int .i64 0, .int .i64 0, .slice none 0 0, ?_⟩
    have h := heap_alloc_new (w.alloc (.cells (lCells x) 73)) (.cells #[.int .i64 0, .int .i64 0, .int .i64 0, .int .i64 0, .int .i64 0, .slice none 0 0] 73)
    rw [World.size_alloc] at h
    exact h
  clear ht hn
  unfold Lnk.val
  go_enter Tryz.func88, Tryz.ntmps88
  go_wp2
  refine wp_region_free8 [some 3, some 4, some 5, some 6, some 7, some 8, some 9, some 10, some 11, some 12, some 13, some 14, some 15, some 16, none] [[], [0], [], [2], [], [4], [], [6], [], [8], [], [10], [11], [1, 3, 5, 7, 9, 12], [13, 12, 0, 1, 2, 3, 4, 5, 6, 7, 8, 9, 10, 11, 12, 13]] [(1, .pointer (some ⟨w.heap.size, 0, none⟩)), (2, .pointer (some ⟨w.heap.size + 1, 0, none⟩))] (fun W _ => LkR w w.heap.size (w.heap.size + 1) x W) (lkPhi w w.heap.size (w.heap.size + 1) x) (by kernel_rfl) (by kernel_rfl) rfl (by kernel_rfl) ?_ ?_ ⟨fun _ => 0, R0.out⟩ ?_ ?_
  · intro z hz
    simp only [List.mem_cons, List.mem_nil_iff, or_false] at hz
    rcases hz with rfl | rfl
    · exact ⟨rfl, rfl⟩
    · exact ⟨rfl, rfl⟩
  · intro i v W γ hi h
    rcases i with _ | _ | _ | _ | _ | _ | _ | _ | _ | _ | _ | _ | _ | _ | _ | i
    all_goals first | exact h | (simp at hi)
  · refine ⟨?_, ?_, ?_, ?_, ?_, ?_, ?_, ?_, ?_, ?_, ?_, ?_, ?_, ?_, ?_, trivial⟩
    all_goals
      intro a W γ ev hcc hff hfx hR hpre
      simp only [List.mem_cons, List.mem_nil_iff, or_false, forall_eq, forall_eq_or_imp] at hfx
      obtain ⟨f1, f2⟩ := hfx
      have Z0 : W.cell? ⟨w.heap.size, 0, none⟩ = some (.int .i64 x.a) := hR.box.cell 0
      have Z1 : W.cell? ⟨w.heap.size, 1, none⟩ = some (.int .i64 x.b) := hR.box.cell 1
      have Z2 : W.cell? ⟨w.heap.size, 2, none⟩ = some (.int .i64 x.kind) := hR.box.cell 2
      have Z3 : W.cell? ⟨w.heap.size, 3, none⟩ = some (.int .i64 x.most) := hR.box.cell 3
      have Z4 : W.cell? ⟨w.heap.size, 4, none⟩ = some (.int .i64 x.ohm) := hR.box.cell 4
      have Z5 : W.cell? ⟨w.heap.size, 5, none⟩ = some (.slice x.tA x.tn x.tc) := hR.box.cell 5
      have HR := Lib.hid hR
      clear hR
      refine ⟨fun _ K hK => ?_, trivial⟩
    · clear hpre; go_simp; exact hK _ _ _ HR.out (fun _ _ _ _ h => h) rfl
    · have q1 : ev (.tmp 3) = _ := hpre 0 (by decide)
      clear hpre; go_simp; exact hK _ _ _ HR.out (fun _ _ _ _ h => h) rfl
    · clear hpre; go_simp; exact hK _ _ _ HR.out (fun _ _ _ _ h => h) rfl
    · have q1 : ev (.tmp 5) = _ := hpre 2 (by decide)
      clear hpre; go_simp; exact hK _ _ _ HR.out (fun _ _ _ _ h => h) rfl
    · clear hpre; go_simp; exact hK _ _ _ HR.out (fun _ _ _ _ h => h) rfl
    · have q1 : ev (.tmp 7) = _ := hpre 4 (by decide)
      clear hpre; go_simp; exact hK _ _ _ HR.out (fun _ _ _ _ h => h) rfl
    · clear hpre; go_simp; exact hK _ _ _ HR.out (fun _ _ _ _ h => h) rfl
    · have q1 : ev (.tmp 9) = _ := hpre 6 (by decide)
      clear hpre; go_simp; exact hK _ _ _ HR.out (fun _ _ _ _ h => h) rfl
    · clear hpre; go_simp; exact hK _ _ _ HR.out (fun _ _ _ _ h => h) rfl
    · have q1 : ev (.tmp 11) = _ := hpre 8 (by decide)
      clear hpre; go_simp; exact hK _ _ _ HR.out (fun _ _ _ _ h => h) rfl
    · clear hpre; go_simp; exact hK _ _ _ HR.out (fun _ _ _ _ h => h) rfl
    · have q1 : ev (.tmp 13) = _ := hpre 10 (by decide)
      clear hpre; go_simp; exact hK _ _ _ HR.out (fun _ _ _ _ h => h) rfl
    · have q1 : ev (.tmp 14) = _ := hpre 11 (by decide)
      have C := Lib.hid (CT.out W (HT.out.next HR.out.low))
      clear hpre
      go_simp
      refine C.out.mono ?_
      rintro e w5 ⟨A, c, rfl, hO, hB⟩
      obtain ⟨c0, c1, c2, c3, c4, c5, hres⟩ := HR.out.res
      exact hK _ w5 γ ⟨below_after hB (Nat.le_refl _) HR.out.low, Blk.below HR.out.box hB (Blk.lt HR.out.box), c0, c1, c2, c3, c4, c5, Blk.below hres hB (Blk.lt hres)⟩ (fun j u _ _ h => lkPhi_kept hB j u h) ⟨A, c, rfl, hO.mono_base HR.out.low.size⟩
    · have q1 : ev (.tmp 4) = _ := hpre 1 (by decide)
      have q2 : ev (.tmp 6) = _ := hpre 3 (by decide)
      have q3 : ev (.tmp 8) = _ := hpre 5 (by decide)
      have q4 : ev (.tmp 10) = _ := hpre 7 (by decide)
      have q5 : ev (.tmp 12) = _ := hpre 9 (by decide)
      obtain ⟨A, c, q6, hO⟩ := hpre 12 (by decide)
      replace q6 : ev (.tmp 15) = _ := q6
      have HO := Lib.hid hO
      clear hpre hO
      go_simp
      exact hK _ _ _ HR.out (fun _ _ _ _ h => h) ⟨A, c, rfl, HO.out⟩
    · obtain ⟨A, c, q1, hO⟩ := hpre 13 (by decide)
      replace q1 : ev (.tmp 16) = .agg #[.int .i64 x.a, .int .i64 x.b, .int .i64 x.kind, .int .i64 x.most, .int .i64 x.ohm, .slice A x.tn c] := q1
      obtain ⟨c0, c1, c2, c3, c4, c5, hb⟩ := HR.out.res
      have S := store6 hb (.int .i64 x.a) (.int .i64 x.b) (.int .i64 x.kind) (.int .i64 x.most) (.int .i64 x.ohm) (.slice A x.tn c)
      obtain ⟨S1, S2⟩ := S
      have HS1 := Lib.hid S1
      have HS2 := Lib.hid S2
      have HO := Lib.hid hO
      have d0 : W.cell? ⟨w.heap.size + 1, 0, none⟩ = some c0 := hb.cell 0
      have d1 : W.cell? ⟨w.heap.size + 1, 1, none⟩ = some c1 := hb.cell 1
      have d2 : W.cell? ⟨w.heap.size + 1, 2, none⟩ = some c2 := hb.cell 2
      have d3 : W.cell? ⟨w.heap.size + 1, 3, none⟩ = some c3 := hb.cell 3
      have d4 : W.cell? ⟨w.heap.size + 1, 4, none⟩ = some c4 := hb.cell 4
      have d5 : W.cell? ⟨w.heap.size + 1, 5, none⟩ = some c5 := hb.cell 5
      have fz := hb.frozen
      have HB := Lib.hid hb
      clear hpre hO hb S1 S2 Z0 Z1 Z2 Z3 Z4 Z5
      go_simp
      exact hK undef _ γ ⟨HR.out.low.grown HS2.out HR.out.low.size (fun k e => by cases e; omega), Blk.kept HR.out.box HS2.out (fun e => by have := Option.some.inj e; omega), _, _, _, _, _, _, HS1.out⟩ (fun j u _ hne h => lkPhi_store HS2.out HB.out j u hne h) ⟨A, c, HS1.out, HO.out.kept HS2.out HB.out (by decide)⟩
  · intro vs w' γ hvl hR hφ
    obtain ⟨A, c, hb, hO⟩ := hφ 14 (by decide)
    have d0 : w'.cell? ⟨w.heap.size + 1, 0, none⟩ = some (.int .i64 x.a) := hb.cell 0
    have d1 : w'.cell? ⟨w.heap.size + 1, 1, none⟩ = some (.int .i64 x.b) := hb.cell 1
    have d2 : w'.cell? ⟨w.heap.size + 1, 2, none⟩ = some (.int .i64 x.kind) := hb.cell 2
    have d3 : w'.cell? ⟨w.heap.size + 1, 3, none⟩ = some (.int .i64 x.most) := hb.cell 3
    have d4 : w'.cell? ⟨w.heap.size + 1, 4, none⟩ = some (.int .i64 x.ohm) := hb.cell 4
    have d5 : w'.cell? ⟨w.heap.size + 1, 5, none⟩ = some (.slice A x.tn c) := hb.cell 5
    have HR := Lib.hid hR
    have HO := Lib.hid hO
    clear hφ hR hb hO
    match vs, hvl with
    | [z0, z1, z2, z3, z4, z5, z6, z7, z8, z9, z10, z11, z12, z13, z14], _ =>
    simp [putAll]
    go_wp2
    refine bodyPost_ret (v := .agg #[.int .i64 x.a, .int .i64 x.b, .int .i64 x.kind, .int .i64 x.most, .int .i64 x.ohm, .slice A x.tn c]) ?_ rfl ⟨A, c, rfl, HO.out, HR.out.low⟩
    simp [results, Tryz.results88, go_sem, d0, d1, d2, d3, d4, d5]
/-- The same link, its trips elsewhere. -/
def SameLnks (l M : List Lnk) : Prop := M.length = l.length ∧ ∀ (i : Nat) x, l[i]? = some x → ∃ A c, M[i]? = some (x.at_ A c)
theorem SameLnks.snoc {l M : List Lnk} (h : SameLnks l M) (x : Lnk) (A : Option Addr) (c : Nat) : SameLnks (l ++ [x]) (M ++ [x.at_ A c]) := by
  refine ⟨by simp [h.1], fun i y hy => ?_⟩
  rw [List.getElem?_append] at hy
  split at hy
  · rename_i hi
    obtain ⟨A', c', h1⟩ := h.2 i y hy
    exact ⟨A', c', by rw [List.getElem?_append_left (by rw [h.1]; exact hi)]; exact h1⟩
  · rename_i hi
    have hm := List.mem_of_getElem? hy
    rw [List.mem_singleton] at hm
    subst hm
    have h0 : i - l.length = 0 := by
      have := (List.getElem?_eq_some_iff.1 hy).1
      simp at this
      omega
    refine ⟨A, c, ?_⟩
    rw [List.getElem?_append_right (by rw [h.1]; omega), h.1, h0]
    rfl
/-- The links copied so far. -/
structure LnksW (w : World) (v : Value) (l M : List Lnk) (W : World) : Prop where
  low : Below w.heap.size w W
  out : W.ownsRow w.heap.size 73 6 v M.length (M.flatMap Lnk.enc)
  trips : ∀ y ∈ M, TripOwn W w.heap.size y
  same : SameLnks l M
theorem LnksW.next {w W W' : World} {v : Value} {l M : List Lnk} (h : LnksW w v l M W) (hb : Below W.heap.size W W') : LnksW w v l M W' :=
  ⟨below_after hb (Nat.le_refl _) h.low, h.out.kept (grown_of_below hb) (by by_cases hu : v.ownBlock = none; exact .inl hu; exact .inr hu), fun y hy => (h.trips y hy).next hb, h.same⟩
set_option maxRecDepth 100000 in
set_option maxHeartbeats 4000000 in
theorem CopyLinks_any (A : Option Addr) (n c : Nat) (l : List Lnk) (w : World) (hl : Rd w w.heap.size 6 Lnk.enc A n l) (hn : n ≤ 60) (ht : ∀ x ∈ l, Rd w w.heap.size 2 Trp.enc x.tA x.tn x.trip ∧ x.tn ≤ 20) :
    Calls Tryz.prog 38 #[.slice A n c] w fun e w' => ∃ (A' : Option Addr) (c' : Nat) (M : List Lnk), e = .returned (.slice A' n c') ∧ LnksW w (.slice A' n c') l M w' := by
  have HL := Lib.hid hl
  have HT := Lib.hid ht
  have hlen := hl.1
  obtain ⟨i0, hi, hz0, hz1, hz2⟩ := info_parts linkInfo
  clear hl ht
  go_enter Tryz.func38, Tryz.ntmps38
  go_wp2
  have J0 : Hid (LnksW w (.slice none 0 0) (l.take 0) [] w) := ⟨Below.refl _ _, World.ownsRow_nil _ _ _ _, fun y hy => by simp at hy, rfl, fun i x h => by simp at h⟩
  go_loopw [3, 4] (fun v i wr => ∃ (k : Nat) (M : List Lnk), k ≤ n ∧ i = .int .i64 k ∧ Hid (LnksW w v (l.take k) M wr)) (fun _ i _ => n - (intOf i).toNat)
  case atStart => exact ⟨0, [], by omega, rfl, J0⟩
  case round =>
    clear J0
    obtain ⟨k, M, hk, rfl, HJ⟩ := hrel
    obtain ⟨v, hv⟩ : ∃ z, z = u3 := ⟨u3, rfl⟩
    subst hv
    by_cases hlt : k < n
    · obtain ⟨b, off, x, e1, hb, hx, hcx⟩ := (HL.out.below HJ.out.low).at_ hlt
      obtain ⟨d0, d1, d2, d3, d4, d5⟩ := Lnk.cells hcx
      obtain ⟨htx, htn⟩ := HT.out x (List.mem_of_getElem? hx)
      have CK := Lib.hid (CopyLink_any x wr (htx.below HJ.out.low |>.more HJ.out.low.size) (by omega))
      unfold Lnk.val at CK
      have hk0 : (0 : Int) ≤ (k : Int) := by omega
      have hkn : (k : Int) < (n : Int) := by omega
      have HTK : Hid (l.take (k + 1) = l.take k ++ [x]) := by show l.take (k + 1) = _; rw [List.take_add_one, hx]; rfl
      have hMl : M.length = k := by have h := HJ.out.same.1; rw [List.length_take] at h; omega
      subst e1
      clear hx hcx htx
      go_wp2_with fail
      refine CK.out.mono ?_
      rintro e w2 ⟨A2, c2, rfl, hO, hB⟩
      have HJ2 := Lib.hid (HJ.out.next hB)
      have HO2 : Hid (TripOwn w2 w.heap.size (x.at_ A2 c2)) := World.ownsRow.mono_base hO HJ.out.low.size
      have zw : w.heap.size ≤ w2.heap.size := HJ2.out.low.size
      have HO := Lib.hid HJ2.out.out
      unfold Lnk.at_
      dsimp only
      clear hB hO HJ CK d0 d1 d2 d3 d4 d5
      go_wp2_with (at_builtin; refine wpList_append_own_at _ rfl (.tmp 11) (.tmp 17) 23 rfl w.heap.size 73 i0 (.agg #[.int .i64 0, .int .i64 0, .int .i64 0, .int .i64 0, .int .i64 0, .slice none 0 0]) 6 64 Tryz.underlying23 hi hz0 hz1 hz2 rfl (by decide) _ M.length _ rfl (HO.out.alloc _) ⟨w2.heap.size, 0, none⟩ 1 1 [.int .i64 x.a, .int .i64 x.b, .int .i64 x.kind, .int .i64 x.most, .int .i64 x.ohm, .slice A2 x.tn c2] rfl rfl ?_ ?_ ?_ ?_ ?_ ?_)
      case _ =>
        intro i z hz
        rcases i with _ | _ | _ | _ | _ | _ | i
        all_goals first | (simp only [List.getElem?_cons_succ, List.getElem?_cons_zero, Option.some.injEq] at hz; subst hz; simp [Addr.add, go_sem]) | (simp at hz)
      case _ =>
        intro z hz
        simp only [List.mem_cons, List.mem_nil_iff, or_false] at hz
        rcases hz with rfl | rfl | rfl | rfl | rfl | rfl <;> rfl
      case _ => simp only [maxLen]; omega
      case _ => omega
      case _ => first | omega | (simp; omega)
      intro v' w7 hown hg7 _ _
      have HJ7 : Hid (LnksW w v' (l.take (k + 1)) (M ++ [x.at_ A2 c2]) w7) := by
        refine ⟨(HJ2.out.low.alloc zw _).grown hg7 (by simp; omega) (fun j e => (HO.out.lt j e).1), ?_, fun y hy => ?_, ?_⟩
        · rw [List.length_append, List.flatMap_append, hMl]
          simpa [Lnk.enc, Lnk.at_] using hown
        · have hy2 : TripOwn w2 w.heap.size y := by
            rcases List.mem_append.1 hy with h | h
            · exact HJ2.out.trips y h
            · rw [List.mem_singleton] at h
              rw [h]
              exact HO2.out
          exact World.ownsRow.kept (World.ownsRow.alloc hy2 _) hg7 (row_apart hy2 HO.out (by decide))
        · rw [HTK.out]
          exact HJ2.out.same.snoc x A2 c2
      clear hown hg7 HO HJ2 HO2
      go_wp2
      go_roundw
      case rel => exact ⟨k + 1, _, by omega, by go_num, HJ7⟩
      case measure => simp [intOf]; omega
    · obtain rfl : n = k := by omega
      have hMl : M.length = n := by have h := HJ.out.same.1; rw [List.length_take] at h; omega
      have ho := HJ.out.out
      rw [hMl] at ho
      obtain ⟨A', c', rfl⟩ := row_slice ho
      have h2 := HJ.out
      rw [show l.take n = l by rw [← hlen, List.take_length]] at h2
      have HF := Lib.hid h2
      clear ho h2 HJ hMl
      go_wp2
      go_ret
      exact ⟨A', c', M, rfl, HF.out⟩
end Go.Proofs.YtnngdcidopaabaaGreatDoor

/- The kit's CopyPlant. -/
namespace Go.Proofs.YtnngdcidopaabaaGreatDoor
open Go.RowKit

theorem store4 {W : World} {g : Nat} {T : TypeId} {c0 c1 c2 c3 : Value} (h : Blk W g T #[c0, c1, c2, c3]) (v0 v1 v2 v3 : Value) :
    Blk ((((W.setCell ⟨g, 0, none⟩ v0).setCell ⟨g, 1, none⟩ v1).setCell ⟨g, 2, none⟩ v2).setCell ⟨g, 3, none⟩ v3) g T #[v0, v1, v2, v3] ∧
    W.grownBy ((((W.setCell ⟨g, 0, none⟩ v0).setCell ⟨g, 1, none⟩ v1).setCell ⟨g, 2, none⟩ v2).setCell ⟨g, 3, none⟩ v3) (some g) := by
  refine ⟨?_, ?_⟩
  · have k := (((h.set_ 0 v0).set_ 1 v1).set_ 2 v2).set_ 3 v3
    simpa only [List.setIfInBounds_toArray, List.set_cons_zero, List.set_cons_succ] using k
  · have k0 := only_setCell (World.grownBy.refl W (some g)) (p := ⟨g, 0, none⟩) rfl v0
    have k1 := only_setCell k0 (p := ⟨g, 1, none⟩) rfl v1
    have k2 := only_setCell k1 (p := ⟨g, 2, none⟩) rfl v2
    exact only_setCell k2 (p := ⟨g, 3, none⟩) rfl v3
/-- A plant with the same content, wherever it lies. -/
structure CopyOf (p q : Plt) : Prop where
  buses : q.buses = p.buses
  sn : q.sn = p.sn
  ln : q.ln = p.ln
  rn : q.rn = p.rn
  srcs : q.srcs = p.srcs
  lnks : SameLnks p.lnks q.lnks
  rcks : q.rcks = p.rcks
def SrcRow (W : World) (base : Nat) (A : Option Addr) (n c : Nat) (l : List Src) : Prop := W.ownsRow base 89 5 (.slice A n c) n (l.flatMap Src.enc)
def RckRow (W : World) (base : Nat) (A : Option Addr) (n c : Nat) (l : List Rck) : Prop := W.ownsRow base 95 4 (.slice A n c) n (l.flatMap Rck.enc)
def LnkRow (W : World) (base : Nat) (A : Option Addr) (n c : Nat) (M : List Lnk) : Prop := W.ownsRow base 73 6 (.slice A n c) M.length (M.flatMap Lnk.enc) ∧ ∀ y ∈ M, TripOwn W base y
theorem row_next {W W' : World} {n₀ size n : Nat} {e : TypeId} {v : Value} {xs : List Value} (h : W.ownsRow n₀ e size v n xs) (hb : Below W.heap.size W W') : W'.ownsRow n₀ e size v n xs :=
  h.kept (grown_of_below hb) (by by_cases hu : v.ownBlock = none; exact .inl hu; exact .inr hu)
theorem row_store {W W' : World} {n₀ size n rx : Nat} {e T : TypeId} {v : Value} {xs : List Value} {cs : Array Value} (h : W.ownsRow n₀ e size v n xs) (hk : W.grownBy W' (some rx)) (hb : Blk W rx T cs) (hT : T ≠ e) : W'.ownsRow n₀ e size v n xs :=
  h.kept hk (.inr fun e => own_ne h hb hT e.symm)
structure PltOwn (W : World) (base : Nat) (q : Plt) : Prop where
  src : SrcRow W base q.sA q.sn q.sc q.srcs
  lnk : LnkRow W base q.lA q.ln q.lc q.lnks
  rck : RckRow W base q.rA q.rn q.rc q.rcks
theorem PltOwn.next {W W' : World} {base : Nat} {q : Plt} (h : PltOwn W base q) (hb : Below W.heap.size W W') : PltOwn W' base q :=
  ⟨row_next h.src hb, ⟨row_next h.lnk.1 hb, fun y hy => (h.lnk.2 y hy).next hb⟩, row_next h.rck hb⟩
theorem PltOwn.store {W W' : World} {base rx : Nat} {q : Plt} {cs : Array Value} (h : PltOwn W base q) (hk : W.grownBy W' (some rx)) (hb : Blk W rx 26 cs) : PltOwn W' base q :=
  ⟨row_store h.src hk hb (by decide), ⟨row_store h.lnk.1 hk hb (by decide), fun y hy => (h.lnk.2 y hy).kept hk hb (by decide)⟩, row_store h.rck hk hb (by decide)⟩
structure PlR (w : World) (bx rx : Nat) (p : Plt) (W : World) : Prop where
  low : Below w.heap.size w W
  box : Blk W bx 26 (pBox p)
  res : ∃ c0 c1 c2 c3, Blk W rx 26 #[c0, c1, c2, c3]
def plPhi (w : World) (bx rx : Nat) (p : Plt) : Nat → Value → World → (Nat → Nat) → Prop
  | 0, v, _, _ => v = .pointer (some ⟨bx, 0, none⟩)
  | 1, v, _, _ => v = .int .i64 p.buses
  | 2, v, _, _ => v = .pointer (some ⟨bx, 1, none⟩)
  | 3, v, _, _ => v = .slice p.sA p.sn p.sc
  | 4, v, W, _ => ∃ A c, v = .slice A p.sn c ∧ SrcRow W w.heap.size A p.sn c p.srcs
  | 5, v, _, _ => v = .pointer (some ⟨bx, 2, none⟩)
  | 6, v, _, _ => v = .slice p.lA p.ln p.lc
  | 7, v, W, _ => ∃ A c M, v = .slice A p.ln c ∧ LnkRow W w.heap.size A p.ln c M ∧ SameLnks p.lnks M
  | 8, v, _, _ => v = .pointer (some ⟨bx, 3, none⟩)
  | 9, v, _, _ => v = .slice p.rA p.rn p.rc
  | 10, v, W, _ => ∃ A c, v = .slice A p.rn c ∧ RckRow W w.heap.size A p.rn c p.rcks
  | 11, v, W, _ => ∃ q, v = .agg (pBox q) ∧ CopyOf p q ∧ PltOwn W w.heap.size q
  | 12, _, W, _ => ∃ q, Blk W rx 26 (pBox q) ∧ CopyOf p q ∧ PltOwn W w.heap.size q
  | _, _, _, _ => True
theorem plPhi_kept {w : World} {bx rx : Nat} {p : Plt} {W W' : World} {γ γ' : Nat → Nat} (hb : Below W.heap.size W W') (j : Nat) (v : Value) (hv : plPhi w bx rx p j v W γ) : plPhi w bx rx p j v W' γ' := by
  unfold plPhi at hv ⊢
  split at hv <;> first | exact hv | trivial | (obtain ⟨A, c, h1, h2⟩ := hv; exact ⟨A, c, h1, row_next h2 hb⟩) | (obtain ⟨A, c, M, h1, ⟨h2, h3⟩, h4⟩ := hv; exact ⟨A, c, M, h1, ⟨row_next h2 hb, fun y hy => (h3 y hy).next hb⟩, h4⟩) | (obtain ⟨q, h1, h2, h3⟩ := hv; first | exact ⟨q, h1, h2, h3.next hb⟩ | exact ⟨q, Blk.below h1 hb (Blk.lt h1), h2, h3.next hb⟩)
theorem plPhi_store {w : World} {bx rx : Nat} {p : Plt} {W W' : World} {γ γ' : Nat → Nat} {cs : Array Value} (hk : W.grownBy W' (some rx)) (hb : Blk W rx 26 cs) (j : Nat) (v : Value) (hj : j ≠ 12) (hv : plPhi w bx rx p j v W γ) : plPhi w bx rx p j v W' γ' := by
  unfold plPhi at hv ⊢
  split at hv <;> first | exact hv | trivial | exact absurd rfl hj | (obtain ⟨A, c, h1, h2⟩ := hv; exact ⟨A, c, h1, row_store h2 hk hb (by decide)⟩) | (obtain ⟨A, c, M, h1, ⟨h2, h3⟩, h4⟩ := hv; exact ⟨A, c, M, h1, ⟨row_store h2 hk hb (by decide), fun y hy => (h3 y hy).kept hk hb (by decide)⟩, h4⟩) | (obtain ⟨q, h1, h2, h3⟩ := hv; exact ⟨q, h1, h2, h3.store hk hb⟩)
theorem PltOwn.plt {W : World} {base : Nat} {p q : Plt} (h : PltOwn W base q) (hc : CopyOf p q) (h1 : p.srcs.length = p.sn) (h2 : p.lnks.length = p.ln) (h3 : p.rcks.length = p.rn) (ht : ∀ x ∈ p.lnks, x.trip.length = x.tn ∧ x.tn ≤ 20) (k1 : p.sn ≤ 60) (k2 : p.ln ≤ 60) (k3 : p.rn ≤ 60) : PltIn W W.heap.size q := by
  have hl := hc.lnks.1
  have hll : q.lnks.length = q.ln := by rw [hl, h2, hc.ln]
  have hlk := h.lnk.1
  rw [hll] at hlk
  have hm : ∀ y ∈ q.lnks, y.trip.length = y.tn ∧ y.tn ≤ 20 := fun y hy => by
    obtain ⟨i, hi⟩ := List.getElem?_of_mem hy
    have hip : i < p.lnks.length := by rw [← hl]; exact (List.getElem?_eq_some_iff.1 hi).1
    obtain ⟨A, c, h4⟩ := hc.lnks.2 i _ (List.getElem?_eq_getElem hip)
    rw [hi] at h4
    cases h4
    exact ht p.lnks[i] (List.getElem_mem hip)
  exact ⟨rd_row (fun _ _ => rfl) (by rw [hc.srcs, h1, hc.sn]) h.src, rd_row (fun _ _ => rfl) hll hlk, rd_row (fun _ _ => rfl) (by rw [hc.rcks, h3, hc.rn]) h.rck, fun y hy => rd_row (fun _ _ => rfl) (hm y hy).1 (h.lnk.2 y hy), by rw [hc.sn]; omega, by rw [hc.ln]; omega, by rw [hc.rn]; omega, fun y hy => by have := (hm y hy).2; omega⟩
set_option maxRecDepth 100000 in
set_option maxHeartbeats 4000000 in
theorem CopyPlant_any (p : Plt) (w : World) (hp : PltIn w w.heap.size p) (k1 : p.sn ≤ 60) (k2 : p.ln ≤ 60) (k3 : p.rn ≤ 60) (kt : ∀ x ∈ p.lnks, x.tn ≤ 20) :
    Calls Tryz.prog 7 #[p.val] w fun e w' => ∃ q : Plt, e = .returned q.val ∧ Below w.heap.size w w' ∧ PltIn w' w'.heap.size q ∧ CopyOf p q ∧ PltOwn w' w.heap.size q := by
  have HP := Lib.hid hp
  have CSo := Lib.hid (fun W hr => CopySources_any p.sA p.sn p.sc p.srcs W hr (by omega))
  have CLn := Lib.hid (fun W hr ht => CopyLinks_any p.lA p.ln p.lc p.lnks W hr k2 ht)
  have CRk := Lib.hid (fun W hr => CopyRacks_any p.rA p.rn p.rc p.rcks W hr (by omega))
  have KT := Lib.hid kt
  have R0 : Hid (PlR w w.heap.size (w.heap.size + 1) p ((w.alloc (.cells (pBox p) 26)).alloc (.cells #[.int .i64 0, .slice none 0 0, .slice none 0 0, .slice none 0 0] 26)).drew) := by
    refine ⟨by (repeat' (first | (with_reducible exact Below.refl _ _) | (with_reducible assumption) | (with_reducible refine below_drewN ?_ _) | (with_reducible refine below_after (by assumption) ?_ ?_) | (with_reducible refine Below.drew ?_) | (with_reducible refine Below.alloc ?_ ?_ _) | (with_reducible refine Below.setCell ?_ ?_ _) | omega | (simp; omega) | (simp; done))), Blk.alloc (heap_alloc_new w _) _, .int .i64 0, .slice none 0 0, .slice none 0 0, .slice none 0 0, ?_⟩
    have h := heap_alloc_new (w.alloc (.cells (pBox p) 26)) (.cells #[.int .i64 0, .slice none 0 0, .slice none 0 0, .slice none 0 0] 26)
    rw [World.size_alloc] at h
    exact h
  clear hp kt
  unfold Plt.val
  go_enter Tryz.func7, Tryz.ntmps7
  go_wp2
  refine wp_region_free8 [some 3, some 4, some 5, some 6, some 7, some 8, some 9, some 10, some 11, some 12, some 13, some 14, none] [[], [0], [], [2], [3], [], [5], [6, 4], [], [8], [9, 7], [1, 4, 7, 10], [11, 10, 0, 1, 2, 3, 4, 5, 6, 7, 8, 9, 10, 11]] [(1, .pointer (some ⟨w.heap.size, 0, none⟩)), (2, .pointer (some ⟨w.heap.size + 1, 0, none⟩))] (fun W _ => PlR w w.heap.size (w.heap.size + 1) p W) (plPhi w w.heap.size (w.heap.size + 1) p) (by kernel_rfl) (by kernel_rfl) rfl (by kernel_rfl) ?_ ?_ ⟨fun _ => 0, R0.out⟩ ?_ ?_
  · intro z hz
    simp only [List.mem_cons, List.mem_nil_iff, or_false] at hz
    rcases hz with rfl | rfl
    · exact ⟨rfl, rfl⟩
    · exact ⟨rfl, rfl⟩
  · intro i v W γ hi h
    rcases i with _ | _ | _ | _ | _ | _ | _ | _ | _ | _ | _ | _ | _ | i
    all_goals first | exact h | (simp at hi)
  · refine ⟨?_, ?_, ?_, ?_, ?_, ?_, ?_, ?_, ?_, ?_, ?_, ?_, ?_, trivial⟩
    all_goals
      intro a W γ ev hcc hff hfx hR hpre
      simp only [List.mem_cons, List.mem_nil_iff, or_false, forall_eq, forall_eq_or_imp] at hfx
      obtain ⟨f1, f2⟩ := hfx
      have Z0 : W.cell? ⟨w.heap.size, 0, none⟩ = some (.int .i64 p.buses) := hR.box.cell 0
      have Z1 : W.cell? ⟨w.heap.size, 1, none⟩ = some (.slice p.sA p.sn p.sc) := hR.box.cell 1
      have Z2 : W.cell? ⟨w.heap.size, 2, none⟩ = some (.slice p.lA p.ln p.lc) := hR.box.cell 2
      have Z3 : W.cell? ⟨w.heap.size, 3, none⟩ = some (.slice p.rA p.rn p.rc) := hR.box.cell 3
      have HR := Lib.hid hR
      have HPW := Lib.hid (HP.out.next hR.low)
      have step : ∀ w5 : World, Below W.heap.size W w5 → PlR w w.heap.size (w.heap.size + 1) p w5 := fun w5 hB => by
        obtain ⟨c0, c1, c2, c3, hres⟩ := hR.res
        exact ⟨below_after hB (Nat.le_refl _) hR.low, Blk.below hR.box hB (Blk.lt hR.box), c0, c1, c2, c3, Blk.below hres hB (Blk.lt hres)⟩
      have HST := Lib.hid step
      clear hR step
      refine ⟨fun _ K hK => ?_, trivial⟩
    · clear hpre; go_simp; exact hK _ _ _ HR.out (fun _ _ _ _ h => h) rfl
    · have q1 : ev (.tmp 3) = _ := hpre 0 (by decide)
      clear hpre; go_simp; exact hK _ _ _ HR.out (fun _ _ _ _ h => h) rfl
    · clear hpre; go_simp; exact hK _ _ _ HR.out (fun _ _ _ _ h => h) rfl
    · have q1 : ev (.tmp 5) = _ := hpre 2 (by decide)
      clear hpre; go_simp; exact hK _ _ _ HR.out (fun _ _ _ _ h => h) rfl
    · have q1 : ev (.tmp 6) = _ := hpre 3 (by decide)
      have C := Lib.hid (CSo.out W HPW.out.src)
      clear hpre
      go_simp
      refine C.out.mono ?_
      rintro e w5 ⟨A, c, rfl, hO, hB⟩
      exact hK _ w5 γ (HST.out _ hB) (fun j u _ _ h => plPhi_kept hB j u h) ⟨A, c, rfl, World.ownsRow.mono_base hO HR.out.low.size⟩
    · clear hpre; go_simp; exact hK _ _ _ HR.out (fun _ _ _ _ h => h) rfl
    · have q1 : ev (.tmp 8) = _ := hpre 5 (by decide)
      clear hpre; go_simp; exact hK _ _ _ HR.out (fun _ _ _ _ h => h) rfl
    · have q1 : ev (.tmp 9) = _ := hpre 6 (by decide)
      have C := Lib.hid (CLn.out W HPW.out.lnk (fun x hx => ⟨HPW.out.trip x hx, KT.out x hx⟩))
      clear hpre
      go_simp
      refine C.out.mono ?_
      rintro e w5 ⟨A, c, M, rfl, hL⟩
      exact hK _ w5 γ (HST.out _ hL.low) (fun j u _ _ h => plPhi_kept hL.low j u h) ⟨A, c, M, rfl, ⟨World.ownsRow.mono_base hL.out HR.out.low.size, fun y hy => World.ownsRow.mono_base (hL.trips y hy) HR.out.low.size⟩, hL.same⟩
    · clear hpre; go_simp; exact hK _ _ _ HR.out (fun _ _ _ _ h => h) rfl
    · have q1 : ev (.tmp 11) = _ := hpre 8 (by decide)
      clear hpre; go_simp; exact hK _ _ _ HR.out (fun _ _ _ _ h => h) rfl
    · have q1 : ev (.tmp 12) = _ := hpre 9 (by decide)
      have C := Lib.hid (CRk.out W HPW.out.rck)
      clear hpre
      go_simp
      refine C.out.mono ?_
      rintro e w5 ⟨A, c, rfl, hO, hB⟩
      exact hK _ w5 γ (HST.out _ hB) (fun j u _ _ h => plPhi_kept hB j u h) ⟨A, c, rfl, World.ownsRow.mono_base hO HR.out.low.size⟩
    · have q1 : ev (.tmp 4) = _ := hpre 1 (by decide)
      obtain ⟨A1, c1, q2, h2⟩ := hpre 4 (by decide)
      obtain ⟨A2, c2, M, q3, h3, h4⟩ := hpre 7 (by decide)
      obtain ⟨A3, c3, q4, h5⟩ := hpre 10 (by decide)
      replace q2 : ev (.tmp 7) = _ := q2
      replace q3 : ev (.tmp 10) = _ := q3
      replace q4 : ev (.tmp 13) = _ := q4
      have H2 := Lib.hid h2
      have H3 := Lib.hid h3
      have H4 := Lib.hid h4
      have H5 := Lib.hid h5
      clear hpre h2 h3 h4 h5
      go_simp
      exact hK _ _ _ HR.out (fun _ _ _ _ h => h) ⟨⟨p.buses, A1, p.sn, c1, A2, p.ln, c2, A3, p.rn, c3, p.srcs, M, p.rcks⟩, rfl, ⟨rfl, rfl, rfl, rfl, rfl, H4.out, rfl⟩, ⟨H2.out, H3.out, H5.out⟩⟩
    · obtain ⟨q, q1, hC, hO⟩ := hpre 11 (by decide)
      replace q1 : ev (.tmp 14) = .agg #[.int .i64 q.buses, .slice q.sA q.sn q.sc, .slice q.lA q.ln q.lc, .slice q.rA q.rn q.rc] := q1
      obtain ⟨c0, c1, c2, c3, hb⟩ := HR.out.res
      obtain ⟨S1, S2⟩ := store4 hb (.int .i64 q.buses) (.slice q.sA q.sn q.sc) (.slice q.lA q.ln q.lc) (.slice q.rA q.rn q.rc)
      have HS1 := Lib.hid S1
      have HS2 := Lib.hid S2
      have HC := Lib.hid hC
      have HO := Lib.hid hO
      have d0 : W.cell? ⟨w.heap.size + 1, 0, none⟩ = some c0 := hb.cell 0
      have d1 : W.cell? ⟨w.heap.size + 1, 1, none⟩ = some c1 := hb.cell 1
      have d2 : W.cell? ⟨w.heap.size + 1, 2, none⟩ = some c2 := hb.cell 2
      have d3 : W.cell? ⟨w.heap.size + 1, 3, none⟩ = some c3 := hb.cell 3
      have fz := hb.frozen
      have HB := Lib.hid hb
      clear hpre hC hO hb S1 S2 Z0 Z1 Z2 Z3
      go_simp
      exact hK undef _ γ ⟨HR.out.low.grown HS2.out HR.out.low.size (fun k e => by cases e; omega), Blk.kept HR.out.box HS2.out (fun e => by have := Option.some.inj e; omega), _, _, _, _, HS1.out⟩ (fun j u _ hne h => plPhi_store HS2.out HB.out j u hne h) ⟨q, HS1.out, HC.out, HO.out.store HS2.out HB.out⟩
  · intro vs w' γ hvl hR hφ
    obtain ⟨q, hb, hC, hO⟩ := hφ 12 (by decide)
    have d0 : w'.cell? ⟨w.heap.size + 1, 0, none⟩ = some (.int .i64 q.buses) := hb.cell 0
    have d1 : w'.cell? ⟨w.heap.size + 1, 1, none⟩ = some (.slice q.sA q.sn q.sc) := hb.cell 1
    have d2 : w'.cell? ⟨w.heap.size + 1, 2, none⟩ = some (.slice q.lA q.ln q.lc) := hb.cell 2
    have d3 : w'.cell? ⟨w.heap.size + 1, 3, none⟩ = some (.slice q.rA q.rn q.rc) := hb.cell 3
    have hq := hO.plt hC HP.out.src.1 HP.out.lnk.1 HP.out.rck.1 (fun x hx => ⟨(HP.out.trip x hx).1, KT.out x hx⟩) k1 k2 k3
    have HR := Lib.hid hR
    have HQ := Lib.hid hq
    have HC := Lib.hid hC
    have HOW := Lib.hid hO
    clear hφ hR hb hO hC hq
    match vs, hvl with
    | [z0, z1, z2, z3, z4, z5, z6, z7, z8, z9, z10, z11, z12], _ =>
    simp [putAll]
    go_wp2
    refine bodyPost_ret (v := .agg #[.int .i64 q.buses, .slice q.sA q.sn q.sc, .slice q.lA q.ln q.lc, .slice q.rA q.rn q.rc]) ?_ rfl ⟨q, rfl, HR.out.low, HQ.out, HC.out, HOW.out⟩
    simp [results, Tryz.results7, go_sem, d0, d1, d2, d3]
end Go.Proofs.YtnngdcidopaabaaGreatDoor
