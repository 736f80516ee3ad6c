/- What is answered of a copy of a plant and a state. Nothing here walks. -/
import Derived.Test.YtnngdcidopaabaaGreatDoorCopyK
import Derived.Test.YtnngdcidopaabaaGreatDoorRefFd
import Derived.Test.YtnngdcidopaabaaGreatDoorLive
import Derived.Test.YtnngdcidopaabaaGreatDoorRefC
import Derived.Test.YtnngdcidopaabaaGreatDoorIslW
import Derived.Test.YtnngdcidopaabaaGreatDoorRclP
import Derived.Test.YtnngdcidopaabaaGreatDoorIslands
import Derived.Test.YtnngdcidopaabaaGreatDoorClash
import Derived.Test.YtnngdcidopaabaaGreatDoorFed
import Derived.Test.YtnngdcidopaabaaGreatDoorInit

set_option linter.unusedSimpArgs false
set_option linter.unusedVariables false
namespace Go.Proofs.YtnngdcidopaabaaGreatDoor
open Go.RowKit

/-- A copy of a plant and a state. -/
structure Copied (p q : Plt) (s t : Stt) : Prop where
  plt : CopyOf p q
  cont : t.cont = s.cont
  ss : Sized s
  st : Sized t
  ls : p.srcs.length = p.sn
  ll : p.lnks.length = p.ln
theorem lnkOk_at (b : Int) (x : Lnk) (A : Option Addr) (c : Nat) : lnkOk b (x.at_ A c) = lnkOk b x := rfl
theorem all_same {q : Lnk → Bool} (hq : ∀ x A c, q (x.at_ A c) = q x) : ∀ {l M : List Lnk}, SameLnks l M → M.all q = l.all q := by
  intro l
  induction l with
  | nil =>
    intro M h
    have := h.1
    simp only [List.length_nil] at this
    rw [List.eq_nil_of_length_eq_zero this]
  | cons x l ih =>
    intro M h
    cases M with
    | nil => have := h.1; simp at this
    | cons y M =>
      obtain ⟨A, c, e⟩ := h.2 0 x rfl
      simp only [List.getElem?_cons_zero, Option.some.injEq] at e
      subst e
      rw [List.all_cons, List.all_cons, hq, ih ⟨by have := h.1; simpa using this, fun i z hz => h.2 (i + 1) z (by simpa using hz)⟩]
theorem copy_check {p q : Plt} (h : CopyOf p q) : check q = check p := by
  unfold check srcsOk lnksOk rcksOk
  rw [h.buses, h.srcs, h.rcks, h.lnks.1, all_same (q := lnkOk p.buses) (fun x A c => lnkOk_at _ x A c) h.lnks]
theorem copy_checkState {p q : Plt} {s t : Stt} (h : Copied p q s t) : checkState q t = checkState p s := by
  obtain ⟨n0, n1, n2, n3, n4, n5, n6⟩ := sized_same h.ss h.st (by rw [h.cont])
  obtain ⟨e0, e1, e2, e3, e4, e5, e6⟩ := cont_eq h.cont
  have hcab : cablesOk q t = cablesOk p s := by
    unfold cablesOk
    rw [h.plt.lnks.1]
    have hat : ∀ i, cableAt q t i = cableAt p s i := by
      intro i
      unfold cableAt
      rw [e0, e1]
      cases hp : p.lnks[i]? with
      | none =>
        have : q.lnks[i]? = none := List.getElem?_eq_none (by rw [h.plt.lnks.1]; exact List.getElem?_eq_none_iff.1 hp)
        rw [this]
      | some x =>
        obtain ⟨A, c, hq⟩ := h.plt.lnks.2 i x hp
        rw [hq]
        rfl
    have : cableAt q t = cableAt p s := funext hat
    rw [this]
  unfold checkState stateOk
  rw [copy_check h.plt, hcab]
  unfold linkLists sourceLists busLists
  simp only [List.all_cons, List.all_nil, n0, n1, n2, n3, n4, n5, n6, h.plt.ln, h.plt.sn, h.plt.buses]
  rfl
theorem bit_same {a b : Bs} (h : a.l = b.l) (i : Nat) : bit a i = bit b i := by unfold bit; rw [h]
def abOf {B : Nat} (x : LnkOf B) : Int × Int := (x.1.a, x.1.b)
theorem condTo_ab {B : Nat} {s t : Stt} {L L' : List (LnkOf B)} (hl : L'.length = L.length) (h : ∀ (i : Nat) x, L[i]? = some x → ∃ y, L'[i]? = some y ∧ y.1.a = x.1.a ∧ y.1.b = x.1.b) (hb : t.cont = s.cont) (n : Nat) : (condTo t L' n).map abOf = (condTo s L n).map abOf := by
  obtain ⟨e0, e1, e2, e3, e4, e5, e6⟩ := cont_eq hb
  induction n with
  | zero => rfl
  | succ n ih =>
    rw [condTo, condTo, List.map_append, List.map_append, ih]
    congr 1
    cases hx : L[n]? with
    | none =>
      have : L'[n]? = none := List.getElem?_eq_none (by rw [hl]; exact List.getElem?_eq_none_iff.1 hx)
      rw [this]
    | some x =>
      obtain ⟨y, hy, ha, hbb⟩ := h n x hx
      rw [hy]
      have hc : conds t n y.1 = conds s n x.1 := by
        unfold conds
        rw [bit_same e0, bit_same e2, bit_same e6, ha, hbb, bit_same e6]
      dsimp only
      rw [hc]
      split
      · simp [abOf, ha, hbb]
      · rfl
theorem joinAll_ab {B : Nat} (f : List Nat) (xs : List (LnkOf B)) : joinAll f xs = (xs.map abOf).foldl (fun f y => joinOf f y.1.toNat y.2.toNat) f := by
  unfold joinAll
  rw [List.foldl_map]
  rfl
/-- THE COPY's ISLANDS ARE THE SAME. -/
theorem copy_sound {p q : Plt} {s t : Stt} {B : Nat} {L : List (LnkOf B)} (h : Copied p q s t) (S : Sound p s B L) : ∃ L' : List (LnkOf B), Sound q t B L' ∧ homeL q t L' = homeL p s L ∧ ∀ H n, feedTo (B := B) t q.srcs H n = feedTo (B := B) s p.srcs H n := by
  obtain ⟨n0, n1, n2, n3, n4, n5, n6⟩ := sized_same h.ss h.st (by rw [h.cont])
  obtain ⟨e0, e1, e2, e3, e4, e5, e6⟩ := cont_eq h.cont
  have hbnd : ∀ y ∈ q.lnks, (0 ≤ y.a ∧ y.a < B) ∧ 0 ≤ y.b ∧ y.b < B := by
    intro y hy
    obtain ⟨i, hi⟩ := List.getElem?_of_mem hy
    have hip : i < p.lnks.length := by rw [← h.plt.lnks.1]; exact (List.getElem?_eq_some_iff.1 hi).1
    obtain ⟨A, c, h4⟩ := h.plt.lnks.2 i _ (List.getElem?_eq_getElem hip)
    rw [hi] at h4
    cases h4
    have hm : p.lnks[i] ∈ L.map (·.1) := by rw [← S.lnks]; exact List.getElem_mem hip
    obtain ⟨z, _, hz⟩ := List.mem_map.1 hm
    have := z.2
    rw [hz] at this
    exact this
  obtain ⟨L', hL'⟩ := attach_of q.lnks hbnd
  have hlen : L'.length = L.length := by
    have h1 := congrArg List.length hL'
    have h2 := congrArg List.length S.lnks
    rw [List.length_map] at h1 h2
    rw [← h1, ← h2, h.plt.lnks.1]
  have hrel : ∀ (i : Nat) x, L[i]? = some x → ∃ y, L'[i]? = some y ∧ y.1.a = x.1.a ∧ y.1.b = x.1.b := by
    intro i x hx
    have hp : p.lnks[i]? = some x.1 := by rw [S.lnks, List.getElem?_map, hx]; rfl
    obtain ⟨A, c, hq⟩ := h.plt.lnks.2 i x.1 hp
    rw [hL', List.getElem?_map] at hq
    obtain ⟨y, hy, e⟩ := Option.map_eq_some_iff.1 hq
    exact ⟨y, hy, by rw [e]; rfl, by rw [e]; rfl⟩
  have hfeed : ∀ H n, feedTo (B := B) t q.srcs H n = feedTo (B := B) s p.srcs H n := by
    intro H n
    rw [h.plt.srcs]
    induction n with
    | zero => rfl
    | succ n ih =>
      rw [feedTo, feedTo, ih]
      congr 1
      unfold feedAt
      rw [bit_same e3, bit_same e4]
  refine ⟨L', ⟨by rw [h.plt.buses, S.buses], S.pos, S.small, hL', by rw [h.plt.srcs]; exact S.srcs, ?_⟩, ?_, hfeed⟩
  · have l := S.lens
    exact ⟨by rw [n0, l.closed, h.plt.ln], by rw [n2, l.badLink, h.plt.ln], by rw [n6, l.badBus], by rw [n3, l.on, h.plt.sn], by rw [n4, l.badSource, h.plt.sn]⟩
  · unfold homeL
    rw [h.plt.ln, joinAll_ab, joinAll_ab, condTo_ab hlen hrel h.cont]
    unfold homeTo
    congr 1
    funext i
    unfold homeAt
    rw [bit_same e6]
end Go.Proofs.YtnngdcidopaabaaGreatDoor

/- What is answered of a state that is not valid. -/
namespace Go.Proofs.YtnngdcidopaabaaGreatDoor
open Go.RowKit

theorem islands_bad (p : Plt) (s : Stt) (w : World) (hc : checkState p s ≠ 0) (hp : PltIn w w.heap.size p) (hs : SttIn w w.heap.size s) :
    Calls Tryz.prog 13 #[p.val, s.val] w fun e w' => e = .returned (.tuple #[.slice none 0 0, .int .i64 (checkState p s)]) ∧ Below w.heap.size w w' := by
  have HP := Lib.hid hp
  have HS := Lib.hid hs
  have C := Lib.hid (fun W hp hs => checkState_any p s W hp hs)
  generalize checkState p s = c at hc C
  clear hp hs
  unfold Plt.val Stt.val at C
  unfold Plt.val Stt.val
  go_enter Tryz.func13, Tryz.ntmps13
  go_wp2_with fail
  refine (C.out _ (HP.out.next (by (repeat' (first | (with_reducible exact Below.refl _ _) | (with_reducible assumption) | (with_reducible refine below_drewN ?_ _) | (with_reducible refine below_after (by assumption) ?_ ?_) | (with_reducible refine Below.drew ?_) | (with_reducible refine Below.alloc ?_ ?_ _) | (with_reducible refine Below.setCell ?_ ?_ _) | omega | (simp; omega) | (simp; done))))) (HS.out.next (by (repeat' (first | (with_reducible exact Below.refl _ _) | (with_reducible assumption) | (with_reducible refine below_drewN ?_ _) | (with_reducible refine below_after (by assumption) ?_ ?_) | (with_reducible refine Below.drew ?_) | (with_reducible refine Below.alloc ?_ ?_ _) | (with_reducible refine Below.setCell ?_ ?_ _) | omega | (simp; omega) | (simp; done)))))).mono ?_
  rintro e w1 ⟨rfl, hB1⟩
  go_wp2
  exact bodyPost_ret (results_tmp2 rfl _ _ _) rfl ⟨rfl, by (repeat' (first | (with_reducible exact Below.refl _ _) | (with_reducible assumption) | (with_reducible refine below_drewN ?_ _) | (with_reducible refine below_after (by assumption) ?_ ?_) | (with_reducible refine Below.drew ?_) | (with_reducible refine Below.alloc ?_ ?_ _) | (with_reducible refine Below.setCell ?_ ?_ _) | omega | (simp; omega) | (simp; done)))⟩
theorem fed_bad (p : Plt) (s : Stt) (w : World) (hc : checkState p s ≠ 0) (hp : PltIn w w.heap.size p) (hs : SttIn w w.heap.size s) :
    Calls Tryz.prog 19 #[p.val, s.val] w fun e w' => e = .returned (.tuple #[.slice none 0 0, .int .i64 (checkState p s)]) ∧ Below w.heap.size w w' := by
  have HP := Lib.hid hp
  have HS := Lib.hid hs
  have C := Lib.hid (fun W hp hs => checkState_any p s W hp hs)
  generalize checkState p s = c at hc C
  clear hp hs
  unfold Plt.val Stt.val at C
  unfold Plt.val Stt.val
  go_enter Tryz.func19, Tryz.ntmps19
  go_wp2_with fail
  refine (C.out _ (HP.out.next (by (repeat' (first | (with_reducible exact Below.refl _ _) | (with_reducible assumption) | (with_reducible refine below_drewN ?_ _) | (with_reducible refine below_after (by assumption) ?_ ?_) | (with_reducible refine Below.drew ?_) | (with_reducible refine Below.alloc ?_ ?_ _) | (with_reducible refine Below.setCell ?_ ?_ _) | omega | (simp; omega) | (simp; done))))) (HS.out.next (by (repeat' (first | (with_reducible exact Below.refl _ _) | (with_reducible assumption) | (with_reducible refine below_drewN ?_ _) | (with_reducible refine below_after (by assumption) ?_ ?_) | (with_reducible refine Below.drew ?_) | (with_reducible refine Below.alloc ?_ ?_ _) | (with_reducible refine Below.setCell ?_ ?_ _) | omega | (simp; omega) | (simp; done)))))).mono ?_
  rintro e w1 ⟨rfl, hB1⟩
  go_wp2
  exact bodyPost_ret (results_tmp2 rfl _ _ _) rfl ⟨rfl, by (repeat' (first | (with_reducible exact Below.refl _ _) | (with_reducible assumption) | (with_reducible refine below_drewN ?_ _) | (with_reducible refine below_after (by assumption) ?_ ?_) | (with_reducible refine Below.drew ?_) | (with_reducible refine Below.alloc ?_ ?_ _) | (with_reducible refine Below.setCell ?_ ?_ _) | omega | (simp; omega) | (simp; done)))⟩
theorem clashes_bad (p : Plt) (s : Stt) (w : World) (hc : checkState p s ≠ 0) (hp : PltIn w w.heap.size p) (hs : SttIn w w.heap.size s) :
    Calls Tryz.prog 22 #[p.val, s.val] w fun e w' => e = .returned (.tuple #[.slice none 0 0, .int .i64 (checkState p s)]) ∧ Below w.heap.size w w' := by
  have HP := Lib.hid hp
  have HS := Lib.hid hs
  have C := Lib.hid (fun W hp hs => checkState_any p s W hp hs)
  generalize checkState p s = c at hc C
  clear hp hs
  unfold Plt.val Stt.val at C
  unfold Plt.val Stt.val
  go_enter Tryz.func22, Tryz.ntmps22
  go_wp2_with fail
  refine (C.out _ (HP.out.next (by (repeat' (first | (with_reducible exact Below.refl _ _) | (with_reducible assumption) | (with_reducible refine below_drewN ?_ _) | (with_reducible refine below_after (by assumption) ?_ ?_) | (with_reducible refine Below.drew ?_) | (with_reducible refine Below.alloc ?_ ?_ _) | (with_reducible refine Below.setCell ?_ ?_ _) | omega | (simp; omega) | (simp; done))))) (HS.out.next (by (repeat' (first | (with_reducible exact Below.refl _ _) | (with_reducible assumption) | (with_reducible refine below_drewN ?_ _) | (with_reducible refine below_after (by assumption) ?_ ?_) | (with_reducible refine Below.drew ?_) | (with_reducible refine Below.alloc ?_ ?_ _) | (with_reducible refine Below.setCell ?_ ?_ _) | omega | (simp; omega) | (simp; done)))))).mono ?_
  rintro e w1 ⟨rfl, hB1⟩
  go_wp2
  exact bodyPost_ret (results_tmp2 rfl _ _ _) rfl ⟨rfl, by (repeat' (first | (with_reducible exact Below.refl _ _) | (with_reducible assumption) | (with_reducible refine below_drewN ?_ _) | (with_reducible refine below_after (by assumption) ?_ ?_) | (with_reducible refine Below.drew ?_) | (with_reducible refine Below.alloc ?_ ?_ _) | (with_reducible refine Below.setCell ?_ ?_ _) | omega | (simp; omega) | (simp; done)))⟩
theorem refIslands_bad (p : Plt) (s : Stt) (w : World) (hc : checkState p s ≠ 0) (hp : PltIn w w.heap.size p) (hs : SttIn w w.heap.size s) :
    Calls Tryz.prog 14 #[p.val, s.val] w fun e w' => e = .returned (.tuple #[.slice none 0 0, .int .i64 (checkState p s)]) ∧ Below w.heap.size w w' := by
  have HP := Lib.hid hp
  have HS := Lib.hid hs
  have C := Lib.hid (fun W hp hs => refCheckState_any p s W hp hs)
  generalize checkState p s = c at hc C
  clear hp hs
  unfold Plt.val Stt.val at C
  unfold Plt.val Stt.val
  go_enter Tryz.func14, Tryz.ntmps14
  go_wp2_with fail
  refine (C.out _ (HP.out.next (by (repeat' (first | (with_reducible exact Below.refl _ _) | (with_reducible assumption) | (with_reducible refine below_drewN ?_ _) | (with_reducible refine below_after (by assumption) ?_ ?_) | (with_reducible refine Below.drew ?_) | (with_reducible refine Below.alloc ?_ ?_ _) | (with_reducible refine Below.setCell ?_ ?_ _) | omega | (simp; omega) | (simp; done))))) (HS.out.next (by (repeat' (first | (with_reducible exact Below.refl _ _) | (with_reducible assumption) | (with_reducible refine below_drewN ?_ _) | (with_reducible refine below_after (by assumption) ?_ ?_) | (with_reducible refine Below.drew ?_) | (with_reducible refine Below.alloc ?_ ?_ _) | (with_reducible refine Below.setCell ?_ ?_ _) | omega | (simp; omega) | (simp; done)))))).mono ?_
  rintro e w1 ⟨rfl, hB1⟩
  go_wp2
  exact bodyPost_ret (results_tmp2 rfl _ _ _) rfl ⟨rfl, by (repeat' (first | (with_reducible exact Below.refl _ _) | (with_reducible assumption) | (with_reducible refine below_drewN ?_ _) | (with_reducible refine below_after (by assumption) ?_ ?_) | (with_reducible refine Below.drew ?_) | (with_reducible refine Below.alloc ?_ ?_ _) | (with_reducible refine Below.setCell ?_ ?_ _) | omega | (simp; omega) | (simp; done)))⟩
theorem refLive_bad (p : Plt) (s : Stt) (w : World) (hc : checkState p s ≠ 0) (hp : PltIn w w.heap.size p) (hs : SttIn w w.heap.size s) :
    Calls Tryz.prog 17 #[p.val, s.val] w fun e w' => e = .returned (.tuple #[.slice none 0 0, .int .i64 (checkState p s)]) ∧ Below w.heap.size w w' := by
  have HP := Lib.hid hp
  have HS := Lib.hid hs
  have C := Lib.hid (fun W hp hs => refCheckState_any p s W hp hs)
  generalize checkState p s = c at hc C
  clear hp hs
  unfold Plt.val Stt.val at C
  unfold Plt.val Stt.val
  go_enter Tryz.func17, Tryz.ntmps17
  go_wp2_with fail
  refine (C.out _ (HP.out.next (by (repeat' (first | (with_reducible exact Below.refl _ _) | (with_reducible assumption) | (with_reducible refine below_drewN ?_ _) | (with_reducible refine below_after (by assumption) ?_ ?_) | (with_reducible refine Below.drew ?_) | (with_reducible refine Below.alloc ?_ ?_ _) | (with_reducible refine Below.setCell ?_ ?_ _) | omega | (simp; omega) | (simp; done))))) (HS.out.next (by (repeat' (first | (with_reducible exact Below.refl _ _) | (with_reducible assumption) | (with_reducible refine below_drewN ?_ _) | (with_reducible refine below_after (by assumption) ?_ ?_) | (with_reducible refine Below.drew ?_) | (with_reducible refine Below.alloc ?_ ?_ _) | (with_reducible refine Below.setCell ?_ ?_ _) | omega | (simp; omega) | (simp; done)))))).mono ?_
  rintro e w1 ⟨rfl, hB1⟩
  go_wp2
  exact bodyPost_ret (results_tmp2 rfl _ _ _) rfl ⟨rfl, by (repeat' (first | (with_reducible exact Below.refl _ _) | (with_reducible assumption) | (with_reducible refine below_drewN ?_ _) | (with_reducible refine below_after (by assumption) ?_ ?_) | (with_reducible refine Below.drew ?_) | (with_reducible refine Below.alloc ?_ ?_ _) | (with_reducible refine Below.setCell ?_ ?_ _) | omega | (simp; omega) | (simp; done)))⟩
theorem refClashes_bad (p : Plt) (s : Stt) (w : World) (hc : checkState p s ≠ 0) (hp : PltIn w w.heap.size p) (hs : SttIn w w.heap.size s) :
    Calls Tryz.prog 23 #[p.val, s.val] w fun e w' => e = .returned (.tuple #[.slice none 0 0, .int .i64 (checkState p s)]) ∧ Below w.heap.size w w' := by
  have HP := Lib.hid hp
  have HS := Lib.hid hs
  have C := Lib.hid (fun W hp hs => refCheckState_any p s W hp hs)
  generalize checkState p s = c at hc C
  clear hp hs
  unfold Plt.val Stt.val at C
  unfold Plt.val Stt.val
  go_enter Tryz.func23, Tryz.ntmps23
  go_wp2_with fail
  refine (C.out _ (HP.out.next (by (repeat' (first | (with_reducible exact Below.refl _ _) | (with_reducible assumption) | (with_reducible refine below_drewN ?_ _) | (with_reducible refine below_after (by assumption) ?_ ?_) | (with_reducible refine Below.drew ?_) | (with_reducible refine Below.alloc ?_ ?_ _) | (with_reducible refine Below.setCell ?_ ?_ _) | omega | (simp; omega) | (simp; done))))) (HS.out.next (by (repeat' (first | (with_reducible exact Below.refl _ _) | (with_reducible assumption) | (with_reducible refine below_drewN ?_ _) | (with_reducible refine below_after (by assumption) ?_ ?_) | (with_reducible refine Below.drew ?_) | (with_reducible refine Below.alloc ?_ ?_ _) | (with_reducible refine Below.setCell ?_ ?_ _) | omega | (simp; omega) | (simp; done)))))).mono ?_
  rintro e w1 ⟨rfl, hB1⟩
  go_wp2
  exact bodyPost_ret (results_tmp2 rfl _ _ _) rfl ⟨rfl, by (repeat' (first | (with_reducible exact Below.refl _ _) | (with_reducible assumption) | (with_reducible refine below_drewN ?_ _) | (with_reducible refine below_after (by assumption) ?_ ?_) | (with_reducible refine Below.drew ?_) | (with_reducible refine Below.alloc ?_ ?_ _) | (with_reducible refine Below.setCell ?_ ?_ _) | omega | (simp; omega) | (simp; done)))⟩
theorem refFed_bad (p : Plt) (s : Stt) (w : World) (hc : checkState p s ≠ 0) (hp : PltIn w w.heap.size p) (hs : SttIn w w.heap.size s) :
    Calls Tryz.prog 20 #[p.val, s.val] w fun e w' => e = .returned (.tuple #[.slice none 0 0, .int .i64 (checkState p s)]) ∧ Below w.heap.size w w' := by
  have HP := Lib.hid hp
  have HS := Lib.hid hs
  have C := Lib.hid (fun W hp hs => refLive_bad p s W hc hp hs)
  generalize checkState p s = c at hc C
  clear hp hs
  unfold Plt.val Stt.val at C
  unfold Plt.val Stt.val
  go_enter Tryz.func20, Tryz.ntmps20
  go_wp2_with fail
  refine (C.out _ (HP.out.next (by (repeat' (first | (with_reducible exact Below.refl _ _) | (with_reducible assumption) | (with_reducible refine below_drewN ?_ _) | (with_reducible refine below_after (by assumption) ?_ ?_) | (with_reducible refine Below.drew ?_) | (with_reducible refine Below.alloc ?_ ?_ _) | (with_reducible refine Below.setCell ?_ ?_ _) | omega | (simp; omega) | (simp; done))))) (HS.out.next (by (repeat' (first | (with_reducible exact Below.refl _ _) | (with_reducible assumption) | (with_reducible refine below_drewN ?_ _) | (with_reducible refine below_after (by assumption) ?_ ?_) | (with_reducible refine Below.drew ?_) | (with_reducible refine Below.alloc ?_ ?_ _) | (with_reducible refine Below.setCell ?_ ?_ _) | omega | (simp; omega) | (simp; done)))))).mono ?_
  rintro e w1 ⟨rfl, hB1⟩
  go_wp2
  exact bodyPost_ret (results_tmp2 rfl _ _ _) rfl ⟨rfl, by (repeat' (first | (with_reducible exact Below.refl _ _) | (with_reducible assumption) | (with_reducible refine below_drewN ?_ _) | (with_reducible refine below_after (by assumption) ?_ ?_) | (with_reducible refine Below.drew ?_) | (with_reducible refine Below.alloc ?_ ?_ _) | (with_reducible refine Below.setCell ?_ ?_ _) | omega | (simp; omega) | (simp; done)))⟩
end Go.Proofs.YtnngdcidopaabaaGreatDoor

/- The program's answers of a copy, and the reference's of the plant, are the same. -/
namespace Go.Proofs.YtnngdcidopaabaaGreatDoor
open Go.RowKit

theorem valid_small {p : Plt} {s : Stt} {w : World} {b : Nat} (hc : checkState p s = 0) (hp : PltIn w b p) : check p = 0 ∧ p.sn ≤ 8 ∧ p.ln ≤ 40 ∧ p.rn ≤ 24 := by
  have h : check p = 0 := by
    unfold checkState at hc
    split at hc
    · assumption
    · rename_i h; exact absurd hc h
  exact ⟨h, check_small h hp⟩
/-- Islands, of the copy and by the reference. -/
def IslAns (e0 : Int) (c : List (List Int × List Int)) (W : World) (e : Ending) (W' : World) : Prop := ∃ (l : List Isle) (A : Option Addr) (n cc : Nat), e = .returned (.tuple #[.slice A n cc, .int .i64 e0]) ∧ Below W.heap.size W W' ∧ IslesIn W' W'.heap.size A n l ∧ l.map Isle.two = c
theorem isles_nil (W : World) : IslesIn W W.heap.size none 0 [] := ⟨Rd.nil _ _ _ _, by omega, fun x hx => by simp at hx, fun x hx => by simp at hx⟩
theorem both_islands {p q : Plt} {s t : Stt} (h : Copied p q s t) {W0 : World} (hp0 : PltIn W0 W0.heap.size p) : ∃ c : List (List Int × List Int),
    (∀ W, PltIn W W.heap.size q → SttIn W W.heap.size t → Calls Tryz.prog 13 #[q.val, t.val] W (IslAns (checkState p s) c W)) ∧
    (∀ W, PltIn W W.heap.size p → SttIn W W.heap.size s → Calls Tryz.prog 14 #[p.val, s.val] W (IslAns (checkState p s) c W)) := by
  have hcs := copy_checkState h
  by_cases hc : checkState p s = 0
  · obtain ⟨B, L, S⟩ := sound_of hc
    obtain ⟨L', S', hH, hF⟩ := copy_sound h S
    obtain ⟨-, k1, k2, k3⟩ := valid_small hc hp0
    refine ⟨islesOf (homeL p s L) (feedTo (B := B) s p.srcs (homeL p s L) p.sn), fun W hq ht => ?_, fun W hp hs => ?_⟩
    · refine (islands_ok q t B L' S' (by rw [h.plt.sn]; omega) W (by rw [hcs]; exact hc) hq ht).mono ?_
      rintro e w' ⟨l, A, n, c, h1, h2, h3, h4⟩
      refine ⟨l, A, n, c, by rw [hc]; exact h1, h2, h3, ?_⟩
      rw [h4, hH, hF, h.plt.sn]
    · refine (refIslands_ok p s B L S (by omega) (by omega) W hc hp hs).mono ?_
      rintro e w' ⟨l, A, c, h1, h2, h3, h4⟩
      exact ⟨l, A, l.length, c, by rw [hc]; exact h1, h2, h3, h4⟩
  · refine ⟨[], fun W hq ht => ?_, fun W hp hs => ?_⟩
    · refine (islands_bad q t W (by rw [hcs]; exact hc) hq ht).mono ?_
      rintro e w' ⟨h1, h2⟩
      exact ⟨[], none, 0, 0, by rw [← hcs]; exact h1, h2, isles_nil _, rfl⟩
    · refine (refIslands_bad p s W hc hp hs).mono ?_
      rintro e w' ⟨h1, h2⟩
      exact ⟨[], none, 0, 0, h1, h2, isles_nil _, rfl⟩
def LstAns {α : Type} (size : Nat) (f : α → List Value) (e0 : Int) (c : List α) (W : World) (e : Ending) (W' : World) : Prop := ∃ (A : Option Addr) (n cc : Nat), e = .returned (.tuple #[.slice A n cc, .int .i64 e0]) ∧ Below W.heap.size W W' ∧ Rd W' W'.heap.size size f A n c
theorem boolB_rd {w : World} {g B : Nat} {l : List Bool} (h : BoolB w g l) (hl : l.length = B) : Rd w w.heap.size 1 encB (some ⟨g, 0, none⟩) B l := by
  refine ⟨hl, fun _ => ⟨g, 0, rfl, Blk.lt h, fun i x hx j u hu => ?_⟩⟩
  unfold encB at hu
  match j, hu with
  | 0, hu =>
    simp only [List.getElem?_cons_zero, Option.some.injEq] at hu
    subst hu
    simpa using h.cell hx
theorem both_live {p q : Plt} {s t : Stt} (h : Copied p q s t) {W0 : World} (hp0 : PltIn W0 W0.heap.size p) : ∃ c : List Bool, c.length ≤ 24 ∧
    (∀ W, PltIn W W.heap.size q → SttIn W W.heap.size t → Calls Tryz.prog 16 #[q.val, t.val] W (LstAns 1 encB (checkState p s) c W)) ∧
    (∀ W, PltIn W W.heap.size p → SttIn W W.heap.size s → Calls Tryz.prog 17 #[p.val, s.val] W (LstAns 1 encB (checkState p s) c W)) := by
  have hcs := copy_checkState h
  by_cases hc : checkState p s = 0
  · obtain ⟨B, L, S⟩ := sound_of hc
    obtain ⟨L', S', hH, hF⟩ := copy_sound h S
    obtain ⟨-, k1, k2, k3⟩ := valid_small hc hp0
    have hlv : liveL q t L' = liveL p s L := by
      unfold liveL
      rw [hH, hF, h.plt.sn]
    refine ⟨liveL p s L, by rw [liveL_length]; exact S.small, fun W hq ht => ?_, fun W hp hs => ?_⟩
    · refine (live_ok q t B L' S' W (by rw [hcs]; exact hc) hq ht).mono ?_
      rintro e w' ⟨g, h1, h2, h3, h4⟩
      rw [hlv] at h4
      exact ⟨_, B, B, by rw [hc]; exact h1, h2, boolB_rd h4 (liveL_length p s L)⟩
    · refine (refLive_ok p s B L S (by omega) (by omega) W hc hp hs).mono ?_
      rintro e w' ⟨g, h1, h2, h3, h4⟩
      exact ⟨_, B, B, by rw [hc]; exact h1, h2, boolB_rd h4 (liveL_length p s L)⟩
  · refine ⟨[], by simp, fun W hq ht => ?_, fun W hp hs => ?_⟩
    · refine (live_bad q t W (by rw [hcs]; exact hc) hq ht).mono ?_
      rintro e w' ⟨h1, h2⟩
      exact ⟨none, 0, 0, by rw [← hcs]; exact h1, h2, Rd.nil _ _ _ _⟩
    · refine (refLive_bad p s W hc hp hs).mono ?_
      rintro e w' ⟨h1, h2⟩
      exact ⟨none, 0, 0, h1, h2, Rd.nil _ _ _ _⟩
theorem fed_rd {w : World} {g : Nat} {R : List Rck} {v : List Bool} {n : Nat} (hl : R.length = n) (h : Blk w g 75 (bools (fedTo R v n (n * 2)))) : Rd w w.heap.size 2 encQ (some ⟨g, 0, none⟩) n (R.map (fedPair v)) := by
  refine ⟨by rw [List.length_map]; exact hl, fun _ => ⟨g, 0, rfl, Blk.lt h, fun i x hx j u hu => ?_⟩⟩
  rw [List.getElem?_map] at hx
  obtain ⟨r, hr, rfl⟩ := Option.map_eq_some_iff.1 hx
  have hi := (List.getElem?_eq_some_iff.1 hr).1
  have hj : j < 2 := by have := (List.getElem?_eq_some_iff.1 hu).1; simpa [encQ] using this
  have hq : (fedTo R v n (n * 2))[i * 2 + j]? = some (fedAt R v (i * 2 + j)) := by
    unfold fedTo
    rw [List.getElem?_map, List.getElem?_range (by omega)]
    simp only [Option.map_some, if_pos (show i * 2 + j < n * 2 by omega)]
  have e2 : (i * 2 + j) / 2 = i := by omega
  have hv : u = .bool (fedAt R v (i * 2 + j)) := by
    unfold fedAt
    rw [e2, hr]
    unfold encQ fedPair at hu
    match j, hj, hu with
    | 0, _, hu =>
      simp only [List.getElem?_cons_zero, Option.some.injEq] at hu
      rw [← hu]
      simp
    | 1, _, hu =>
      simp only [List.getElem?_cons_succ, List.getElem?_cons_zero, Option.some.injEq] at hu
      rw [← hu]
      have : (i * 2 + 1) % 2 = 1 := by omega
      simp [this]
  rw [Nat.zero_add, Blk.cell h, hv]
  unfold bools
  rw [List.getElem?_toArray, List.getElem?_map, hq]
  rfl
theorem both_fed {p q : Plt} {s t : Stt} (h : Copied p q s t) {W0 : World} (hp0 : PltIn W0 W0.heap.size p) : ∃ c : List (Bool × Bool), c.length ≤ 24 ∧
    (∀ W, PltIn W W.heap.size q → SttIn W W.heap.size t → Calls Tryz.prog 19 #[q.val, t.val] W (LstAns 2 encQ (checkState p s) c W)) ∧
    (∀ W, PltIn W W.heap.size p → SttIn W W.heap.size s → Calls Tryz.prog 20 #[p.val, s.val] W (LstAns 2 encQ (checkState p s) c W)) := by
  have hcs := copy_checkState h
  by_cases hc : checkState p s = 0
  · obtain ⟨B, L, S⟩ := sound_of hc
    obtain ⟨L', S', hH, hF⟩ := copy_sound h S
    obtain ⟨-, k1, k2, k3⟩ := valid_small hc hp0
    have hrl : p.rcks.length = p.rn := hp0.rck.1
    have hlv : liveL q t L' = liveL p s L := by
      unfold liveL
      rw [hH, hF, h.plt.sn]
    refine ⟨p.rcks.map (fedPair (liveL p s L)), by rw [List.length_map]; omega, fun W hq ht => ?_, fun W hp hs => ?_⟩
    · refine (fed_ok q t B L' S' (fun x hx => by rw [h.plt.rcks] at hx; have := racks_of hc S.buses x hx; exact ⟨this.2.1, this.2.2⟩) (by rw [h.plt.rn]; omega) W (by rw [hcs]; exact hc) hq ht).mono ?_
      rintro e w' ⟨g, h1, h2, h3, h4⟩
      rw [hlv, h.plt.rcks, h.plt.rn] at h4
      rw [h.plt.rn] at h1
      exact ⟨_, p.rn, p.rn, by rw [hc]; exact h1, h2, fed_rd hrl h4⟩
    · refine (refFed_ok p s B L S (by omega) (by omega) (by omega) W hc hp hs).mono ?_
      rintro e w' ⟨A, c, h1, h2, h3⟩
      exact ⟨A, p.rn, c, by rw [hc]; exact h1, h2, h3⟩
  · refine ⟨[], by simp, fun W hq ht => ?_, fun W hp hs => ?_⟩
    · refine (fed_bad q t W (by rw [hcs]; exact hc) hq ht).mono ?_
      rintro e w' ⟨h1, h2⟩
      exact ⟨none, 0, 0, by rw [← hcs]; exact h1, h2, Rd.nil _ _ _ _⟩
    · refine (refFed_bad p s W hc hp hs).mono ?_
      rintro e w' ⟨h1, h2⟩
      exact ⟨none, 0, 0, h1, h2, Rd.nil _ _ _ _⟩
theorem both_clashes {p q : Plt} {s t : Stt} (h : Copied p q s t) {W0 : World} (hp0 : PltIn W0 W0.heap.size p) : ∃ c : List (Int × Int), c.length ≤ 64 ∧
    (∀ W, PltIn W W.heap.size q → SttIn W W.heap.size t → Calls Tryz.prog 22 #[q.val, t.val] W (LstAns 2 encP (checkState p s) c W)) ∧
    (∀ W, PltIn W W.heap.size p → SttIn W W.heap.size s → Calls Tryz.prog 23 #[p.val, s.val] W (LstAns 2 encP (checkState p s) c W)) := by
  have hcs := copy_checkState h
  by_cases hc : checkState p s = 0
  · obtain ⟨B, L, S⟩ := sound_of hc
    obtain ⟨L', S', hH, hF⟩ := copy_sound h S
    obtain ⟨-, k1, k2, k3⟩ := valid_small hc hp0
    have hcl : clashL q t L' = clashL p s L := by
      unfold clashL
      rw [hH, hF, h.plt.sn, h.plt.srcs]
    refine ⟨clashL p s L, clashL_length p s L k1, fun W hq ht => ?_, fun W hp hs => ?_⟩
    · refine (clashes_ok q t B L' S' (by rw [h.plt.sn]; omega) W (by rw [hcs]; exact hc) hq ht).mono ?_
      rintro e w' ⟨A, c, h1, h2, h3⟩
      rw [hcl] at h1 h3
      exact ⟨A, _, c, by rw [hc]; exact h1, h2, rd_pairs h3⟩
    · refine (refClashes_ok p s B L S (by omega) (by omega) W hc hp hs).mono ?_
      rintro e w' ⟨A, c, h1, h2, h3⟩
      exact ⟨A, _, c, by rw [hc]; exact h1, h2, h3⟩
  · refine ⟨[], by simp, fun W hq ht => ?_, fun W hp hs => ?_⟩
    · refine (clashes_bad q t W (by rw [hcs]; exact hc) hq ht).mono ?_
      rintro e w' ⟨h1, h2⟩
      exact ⟨none, 0, 0, by rw [← hcs]; exact h1, h2, Rd.nil _ _ _ _⟩
    · refine (refClashes_bad p s W hc hp hs).mono ?_
      rintro e w' ⟨h1, h2⟩
      exact ⟨none, 0, 0, h1, h2, Rd.nil _ _ _ _⟩
end Go.Proofs.YtnngdcidopaabaaGreatDoor
