/- A plant that a call has made: its rows, its links' trips, and that it has the same content as another one. -/
import Derived.Test.YtcnmfblbfpcghaaGreatDoorAwKit
import Derived.Test.YtcnmfblbfpcghaaGreatDoorClash
import Derived.Test.YtcnmfblbfpcghaaGreatDoorFree

set_option linter.unusedSimpArgs false
set_option linter.unusedVariables false
namespace Go.Proofs.YtcnmfblbfpcghaaGreatDoor
open Go.RowKit

def pBox (p : Plt) : Array Value := #[.int .i64 p.buses, .slice p.sA p.sn p.sc, .slice p.lA p.ln p.lc, .slice p.rA p.rn p.rc]
theorem flatMap_inv {α : Type} {f : α → List Value} {size : Nat} : ∀ (l : List α), (∀ x ∈ l, (f x).length = size) → ∀ (j : Nat) (u : Value), (l.flatMap f)[j]? = some u → ∃ (i : Nat) (x : α) (r : Nat), l[i]? = some x ∧ (f x)[r]? = some u ∧ j = i * size + r
  | [], _, j, u, h => by simp at h
  | y :: l, hf, j, u, h => by
    rw [List.flatMap_cons] at h
    have hy := hf y (List.mem_cons_self ..)
    rcases Nat.lt_or_ge j size with hj | hj
    · rw [List.getElem?_append_left (by omega)] at h
      exact ⟨0, y, j, rfl, h, by simp⟩
    · rw [List.getElem?_append_right (by omega)] at h
      obtain ⟨i, x, r, h1, h2, h3⟩ := flatMap_inv l (fun x hx => hf x (List.mem_cons_of_mem _ hx)) _ u h
      refine ⟨i + 1, x, r, h1, h2, ?_⟩
      rw [Nat.add_mul]
      omega
theorem flatMap_size {α : Type} {f : α → List Value} {size : Nat} : ∀ (l : List α), (∀ x ∈ l, (f x).length = size) → (l.flatMap f).length = l.length * size
  | [], _ => by simp
  | y :: l, hf => by
    rw [List.flatMap_cons, List.length_append, hf y (List.mem_cons_self ..), flatMap_size l (fun x hx => hf x (List.mem_cons_of_mem _ hx)), List.length_cons, Nat.add_mul]
    omega
/-- What append reads of a list that lies at an address. -/
theorem Rd.news {α : Type} {w : World} {B size n : Nat} {f : α → List Value} {ad : Addr} {l : List α} (h : Rd w B size f (some ad) n l) (hf : ∀ x ∈ l, (f x).length = size) (j : Nat) (u : Value) (hu : (l.flatMap f)[j]? = some u) : w.cell? (ad.add j) = some u := by
  obtain ⟨i, x, r, hx, hr, rfl⟩ := flatMap_inv l hf j u hu
  have hi := (List.getElem?_eq_some_iff.1 hx).1
  have hl := h.1
  obtain ⟨b, off, e, hb, hc⟩ := h.2 (by omega)
  cases e
  have := hc i x hx r u hr
  unfold Addr.add
  split
  · rename_i h0
    rw [Nat.add_assoc, h0, Nat.add_zero] at this
    exact this
  · rw [Nat.add_assoc] at this
    exact this
/-- A row of its own reads as the list. -/
theorem rd_row {α : Type} {w : World} {base size n : Nat} {T : TypeId} {f : α → List Value} {A : Option Addr} {c : Nat} {l : List α} (hf : ∀ x ∈ l, (f x).length = size) (hl : l.length = n) (h : w.ownsRow base T size (.slice A n c) n (l.flatMap f)) : Rd w w.heap.size size f A n l := by
  refine ⟨hl, fun hn => ?_⟩
  obtain ⟨g, cap, e⟩ := row_some h hn
  simp only [Value.slice.injEq] at e
  obtain ⟨e, _, _⟩ := e
  subst e
  refine ⟨g, 0, rfl, (h.lt g rfl).2, fun i x hx j u hu => ?_⟩
  rw [Nat.zero_add]
  exact row_cell h (flatMap_get (f := f) (size := size) l hf i x hx j u hu)
theorem store6 {W : World} {g : Nat} {T : TypeId} {c0 c1 c2 c3 c4 c5 : Value} (h : Blk W g T #[c0, c1, c2, c3, c4, c5]) (v0 v1 v2 v3 v4 v5 : Value) :
    Blk ((((((W.setCell ⟨g, 0, none⟩ v0).setCell ⟨g, 1, none⟩ v1).setCell ⟨g, 2, none⟩ v2).setCell ⟨g, 3, none⟩ v3).setCell ⟨g, 4, none⟩ v4).setCell ⟨g, 5, none⟩ v5) g T #[v0, v1, v2, v3, v4, v5] ∧
    W.grownBy ((((((W.setCell ⟨g, 0, none⟩ v0).setCell ⟨g, 1, none⟩ v1).setCell ⟨g, 2, none⟩ v2).setCell ⟨g, 3, none⟩ v3).setCell ⟨g, 4, none⟩ v4).setCell ⟨g, 5, none⟩ v5) (some g) := by
  refine ⟨?_, ?_⟩
  · have k := (((((h.set_ 0 v0).set_ 1 v1).set_ 2 v2).set_ 3 v3).set_ 4 v4).set_ 5 v5
    simpa only [List.setIfInBounds_toArray, List.set_cons_zero, List.set_cons_succ] using k
  · have k0 := only_setCell (World.grownBy.refl W (some g)) (p := ⟨g, 0, none⟩) rfl v0
    have k1 := only_setCell k0 (p := ⟨g, 1, none⟩) rfl v1
    have k2 := only_setCell k1 (p := ⟨g, 2, none⟩) rfl v2
    have k3 := only_setCell k2 (p := ⟨g, 3, none⟩) rfl v3
    have k4 := only_setCell k3 (p := ⟨g, 4, none⟩) rfl v4
    exact only_setCell k4 (p := ⟨g, 5, none⟩) rfl v5
def lCells (x : Lnk) : Array Value := #[.int .i64 x.a, .int .i64 x.b, .int .i64 x.kind, .int .i64 x.most, .int .i64 x.ohm, .slice x.tA x.tn x.tc]
def Lnk.at_ (x : Lnk) (A : Option Addr) (c : Nat) : Lnk := { x with tA := A, tc := c }
def TripOwn (W : World) (base : Nat) (x : Lnk) : Prop := W.ownsRow base 112 2 (.slice x.tA x.tn x.tc) x.tn (x.trip.flatMap Trp.enc)
theorem TripOwn.kept {W W' : World} {base rx : Nat} {x : Lnk} {T : TypeId} {cs : Array Value} (h : TripOwn W base x) (hk : W.grownBy W' (some rx)) (hb : Blk W rx T cs) (hT : T ≠ 112) : TripOwn W' base x :=
  World.ownsRow.kept h hk (.inr fun e => own_ne h hb hT e.symm)
theorem TripOwn.next {W W' : World} {base : Nat} {x : Lnk} (h : TripOwn W base x) (hb : Below W.heap.size W W') : TripOwn W' base x :=
  World.ownsRow.kept h (grown_of_below hb) (by by_cases hu : (Value.slice x.tA x.tn x.tc).ownBlock = none; exact .inl hu; exact .inr hu)
/-- The same link, its trips elsewhere. -/
def SameLnks (l M : List Lnk) : Prop := M.length = l.length ∧ ∀ (i : Nat) x, l[i]? = some x → ∃ A c, M[i]? = some (x.at_ A c)
theorem SameLnks.snoc {l M : List Lnk} (h : SameLnks l M) (x : Lnk) (A : Option Addr) (c : Nat) : SameLnks (l ++ [x]) (M ++ [x.at_ A c]) := by
  refine ⟨by simp [h.1], fun i y hy => ?_⟩
  rw [List.getElem?_append] at hy
  split at hy
  · rename_i hi
    obtain ⟨A', c', h1⟩ := h.2 i y hy
    exact ⟨A', c', by rw [List.getElem?_append_left (by rw [h.1]; exact hi)]; exact h1⟩
  · rename_i hi
    have hm := List.mem_of_getElem? hy
    rw [List.mem_singleton] at hm
    subst hm
    have h0 : i - l.length = 0 := by
      have := (List.getElem?_eq_some_iff.1 hy).1
      simp at this
      omega
    refine ⟨A, c, ?_⟩
    rw [List.getElem?_append_right (by rw [h.1]; omega), h.1, h0]
    rfl
theorem store4 {W : World} {g : Nat} {T : TypeId} {c0 c1 c2 c3 : Value} (h : Blk W g T #[c0, c1, c2, c3]) (v0 v1 v2 v3 : Value) :
    Blk ((((W.setCell ⟨g, 0, none⟩ v0).setCell ⟨g, 1, none⟩ v1).setCell ⟨g, 2, none⟩ v2).setCell ⟨g, 3, none⟩ v3) g T #[v0, v1, v2, v3] ∧
    W.grownBy ((((W.setCell ⟨g, 0, none⟩ v0).setCell ⟨g, 1, none⟩ v1).setCell ⟨g, 2, none⟩ v2).setCell ⟨g, 3, none⟩ v3) (some g) := by
  refine ⟨?_, ?_⟩
  · have k := (((h.set_ 0 v0).set_ 1 v1).set_ 2 v2).set_ 3 v3
    simpa only [List.setIfInBounds_toArray, List.set_cons_zero, List.set_cons_succ] using k
  · have k0 := only_setCell (World.grownBy.refl W (some g)) (p := ⟨g, 0, none⟩) rfl v0
    have k1 := only_setCell k0 (p := ⟨g, 1, none⟩) rfl v1
    have k2 := only_setCell k1 (p := ⟨g, 2, none⟩) rfl v2
    exact only_setCell k2 (p := ⟨g, 3, none⟩) rfl v3
/-- A plant with the same content, wherever it lies. -/
structure CopyOf (p q : Plt) : Prop where
  buses : q.buses = p.buses
  sn : q.sn = p.sn
  ln : q.ln = p.ln
  rn : q.rn = p.rn
  srcs : q.srcs = p.srcs
  lnks : SameLnks p.lnks q.lnks
  rcks : q.rcks = p.rcks
def SrcRow (W : World) (base : Nat) (A : Option Addr) (n c : Nat) (l : List Src) : Prop := W.ownsRow base 110 5 (.slice A n c) n (l.flatMap Src.enc)
def RckRow (W : World) (base : Nat) (A : Option Addr) (n c : Nat) (l : List Rck) : Prop := W.ownsRow base 115 4 (.slice A n c) n (l.flatMap Rck.enc)
def LnkRow (W : World) (base : Nat) (A : Option Addr) (n c : Nat) (M : List Lnk) : Prop := W.ownsRow base 79 6 (.slice A n c) M.length (M.flatMap Lnk.enc) ∧ ∀ y ∈ M, TripOwn W base y
theorem row_next {W W' : World} {n₀ size n : Nat} {e : TypeId} {v : Value} {xs : List Value} (h : W.ownsRow n₀ e size v n xs) (hb : Below W.heap.size W W') : W'.ownsRow n₀ e size v n xs :=
  h.kept (grown_of_below hb) (by by_cases hu : v.ownBlock = none; exact .inl hu; exact .inr hu)
theorem row_store {W W' : World} {n₀ size n rx : Nat} {e T : TypeId} {v : Value} {xs : List Value} {cs : Array Value} (h : W.ownsRow n₀ e size v n xs) (hk : W.grownBy W' (some rx)) (hb : Blk W rx T cs) (hT : T ≠ e) : W'.ownsRow n₀ e size v n xs :=
  h.kept hk (.inr fun e => own_ne h hb hT e.symm)
structure PltOwn (W : World) (base : Nat) (q : Plt) : Prop where
  src : SrcRow W base q.sA q.sn q.sc q.srcs
  lnk : LnkRow W base q.lA q.ln q.lc q.lnks
  rck : RckRow W base q.rA q.rn q.rc q.rcks
theorem PltOwn.next {W W' : World} {base : Nat} {q : Plt} (h : PltOwn W base q) (hb : Below W.heap.size W W') : PltOwn W' base q :=
  ⟨row_next h.src hb, ⟨row_next h.lnk.1 hb, fun y hy => (h.lnk.2 y hy).next hb⟩, row_next h.rck hb⟩
theorem PltOwn.store {W W' : World} {base rx : Nat} {q : Plt} {cs : Array Value} (h : PltOwn W base q) (hk : W.grownBy W' (some rx)) (hb : Blk W rx 26 cs) : PltOwn W' base q :=
  ⟨row_store h.src hk hb (by decide), ⟨row_store h.lnk.1 hk hb (by decide), fun y hy => (h.lnk.2 y hy).kept hk hb (by decide)⟩, row_store h.rck hk hb (by decide)⟩
theorem PltOwn.plt {W : World} {base : Nat} {p q : Plt} (h : PltOwn W base q) (hc : CopyOf p q) (h1 : p.srcs.length = p.sn) (h2 : p.lnks.length = p.ln) (h3 : p.rcks.length = p.rn) (ht : ∀ x ∈ p.lnks, x.trip.length = x.tn ∧ x.tn ≤ 20) (k1 : p.sn ≤ 60) (k2 : p.ln ≤ 60) (k3 : p.rn ≤ 60) : PltIn W W.heap.size q := by
  have hl := hc.lnks.1
  have hll : q.lnks.length = q.ln := by rw [hl, h2, hc.ln]
  have hlk := h.lnk.1
  rw [hll] at hlk
  have hm : ∀ y ∈ q.lnks, y.trip.length = y.tn ∧ y.tn ≤ 20 := fun y hy => by
    obtain ⟨i, hi⟩ := List.getElem?_of_mem hy
    have hip : i < p.lnks.length := by rw [← hl]; exact (List.getElem?_eq_some_iff.1 hi).1
    obtain ⟨A, c, h4⟩ := hc.lnks.2 i _ (List.getElem?_eq_getElem hip)
    rw [hi] at h4
    cases h4
    exact ht p.lnks[i] (List.getElem_mem hip)
  exact ⟨rd_row (fun _ _ => rfl) (by rw [hc.srcs, h1, hc.sn]) h.src, rd_row (fun _ _ => rfl) hll hlk, rd_row (fun _ _ => rfl) (by rw [hc.rcks, h3, hc.rn]) h.rck, fun y hy => rd_row (fun _ _ => rfl) (hm y hy).1 (h.lnk.2 y hy), by rw [hc.sn]; omega, by rw [hc.ln]; omega, by rw [hc.rn]; omega, fun y hy => by have := (hm y hy).2; omega⟩
end Go.Proofs.YtcnmfblbfpcghaaGreatDoor
