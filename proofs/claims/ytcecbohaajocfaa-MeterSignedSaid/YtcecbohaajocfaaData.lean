/- Plain data of plants and states, how they lie in memory, and how a reading lasts. Nothing here names the program. -/
import Derived.WalkKit
import Derived.Handy
import Derived.Deep.Draws

set_option linter.unusedSimpArgs false
set_option linter.unusedVariables false
namespace Go.Proofs.Ytcecbohaajocfaa
open Go.RowKit

/-- A source. -/
structure Src where
  (bus kind power sync ohm : Int)
/-- A trip. -/
structure Trp where
  (amps millis : Int)
/-- A link; where its trips lie. -/
structure Lnk where
  (a b kind most ohm : Int)
  tA : Option Addr
  (tn tc : Nat)
  trip : List Trp
/-- A rack. -/
structure Rck where
  (f0 f1 power paths : Int)
/-- A plant; where its lists lie. -/
structure Plt where
  buses : Int
  sA : Option Addr
  (sn sc : Nat)
  lA : Option Addr
  (ln lc : Nat)
  rA : Option Addr
  (rn rc : Nat)
  srcs : List Src
  lnks : List Lnk
  rcks : List Rck
/-- A list of bools; where it lies. -/
structure Bs where
  A : Option Addr
  (n c : Nat)
  l : List Bool
/-- A state. -/
structure Stt where
  (closed locked badLink on badSource earthed badBus : Bs)

def Src.enc (x : Src) : List Value := [.int .i64 x.bus, .int .i64 x.kind, .int .i64 x.power, .int .i64 x.sync, .int .i64 x.ohm]
def Trp.enc (x : Trp) : List Value := [.int .i64 x.amps, .int .i64 x.millis]
def Lnk.enc (x : Lnk) : List Value := [.int .i64 x.a, .int .i64 x.b, .int .i64 x.kind, .int .i64 x.most, .int .i64 x.ohm, .slice x.tA x.tn x.tc]
def Rck.enc (x : Rck) : List Value := [.int .i64 x.f0, .int .i64 x.f1, .int .i64 x.power, .int .i64 x.paths]
def encB (b : Bool) : List Value := [.bool b]
def encI (n : Int) : List Value := [.int .i64 n]
def encBs (b : Bs) : List Value := [.slice b.A b.n b.c]

/-- A slice that reads as a list, each element of `size` cells; it lies below block B. -/
def Rd {α : Type} (w : World) (B size : Nat) (f : α → List Value) (A : Option Addr) (n : Nat) (l : List α) : Prop :=
  l.length = n ∧ (0 < n → ∃ b off, A = some ⟨b, off, none⟩ ∧ b < B ∧ ∀ i x, l[i]? = some x → ∀ j u, (f x)[j]? = some u → w.cell? ⟨b, off + i * size + j, none⟩ = some u)

section
variable {α : Type} {w w' : World} {B B' size n : Nat} {f : α → List Value} {A : Option Addr} {l : List α}
theorem Rd.keep (h : Rd w B size f A n l) (hk : ∀ p : Addr, p.block < B → w'.cell? p = w.cell? p) : Rd w' B size f A n l :=
  ⟨h.1, fun hn => by
    obtain ⟨b, off, e, hb, hc⟩ := h.2 hn
    exact ⟨b, off, e, hb, fun i x hx j u hu => (hk _ hb).trans (hc i x hx j u hu)⟩⟩
theorem Rd.more (h : Rd w B size f A n l) (hB : B ≤ B') : Rd w B' size f A n l :=
  ⟨h.1, fun hn => by
    obtain ⟨b, off, e, hb, hc⟩ := h.2 hn
    exact ⟨b, off, e, by omega, hc⟩⟩
theorem Rd.below (h : Rd w B size f A n l) (hb : Below B w w') : Rd w' B size f A n l := h.keep fun _ hp => hb.cell hp
/-- What lay in the old world lies in the new one. -/
theorem Rd.next (h : Rd w w.heap.size size f A n l) (hb : Below w.heap.size w w') : Rd w' w'.heap.size size f A n l := (h.below hb).more hb.size
theorem Rd.nil (w : World) (B size : Nat) (f : α → List Value) : Rd w B size f none 0 [] := ⟨rfl, fun h => absurd h (by omega)⟩
theorem Rd.len (h : Rd w B size f A n l) : l.length = n := h.1
/-- An element's cells. -/
theorem Rd.at_ (h : Rd w B size f A n l) {k : Nat} (hk : k < n) : ∃ b off x, A = some ⟨b, off, none⟩ ∧ b < B ∧ l[k]? = some x ∧ ∀ j u, (f x)[j]? = some u → w.cell? ⟨b, off + k * size + j, none⟩ = some u := by
  obtain ⟨b, off, e, hb, hc⟩ := h.2 (by omega)
  have hl : k < l.length := by have := h.1; omega
  exact ⟨b, off, l[k], e, hb, List.getElem?_eq_getElem hl, hc k _ (List.getElem?_eq_getElem hl)⟩
end

def Plt.val (p : Plt) : Value := .agg #[.int .i64 p.buses, .slice p.sA p.sn p.sc, .slice p.lA p.ln p.lc, .slice p.rA p.rn p.rc]
/-- A plant in memory. -/
structure PltIn (w : World) (B : Nat) (p : Plt) : Prop where
  src : Rd w B 5 Src.enc p.sA p.sn p.srcs
  lnk : Rd w B 6 Lnk.enc p.lA p.ln p.lnks
  rck : Rd w B 4 Rck.enc p.rA p.rn p.rcks
  trip : ∀ x ∈ p.lnks, Rd w B 2 Trp.enc x.tA x.tn x.trip
  hs : p.sn ≤ 9223372036854775807
  hl : p.ln ≤ 9223372036854775807
  hr : p.rn ≤ 9223372036854775807
  ht : ∀ x ∈ p.lnks, x.tn ≤ 9223372036854775807
theorem PltIn.keep {w w' : World} {B : Nat} {p : Plt} (h : PltIn w B p) (hk : ∀ q : Addr, q.block < B → w'.cell? q = w.cell? q) : PltIn w' B p :=
  ⟨h.src.keep hk, h.lnk.keep hk, h.rck.keep hk, fun x hx => (h.trip x hx).keep hk, h.hs, h.hl, h.hr, h.ht⟩
theorem PltIn.more {w : World} {B B' : Nat} {p : Plt} (h : PltIn w B p) (hB : B ≤ B') : PltIn w B' p :=
  ⟨h.src.more hB, h.lnk.more hB, h.rck.more hB, fun x hx => (h.trip x hx).more hB, h.hs, h.hl, h.hr, h.ht⟩
theorem PltIn.below {w w' : World} {B : Nat} {p : Plt} (h : PltIn w B p) (hb : Below B w w') : PltIn w' B p := h.keep fun _ hp => hb.cell hp
theorem PltIn.next {w w' : World} {p : Plt} (h : PltIn w w.heap.size p) (hb : Below w.heap.size w w') : PltIn w' w'.heap.size p := (h.below hb).more hb.size

def Bs.val (b : Bs) : Value := .slice b.A b.n b.c
def BsIn (w : World) (B : Nat) (b : Bs) : Prop := Rd w B 1 encB b.A b.n b.l ∧ b.n ≤ 9223372036854775807
def Stt.val (s : Stt) : Value := .agg #[.slice s.closed.A s.closed.n s.closed.c, .slice s.locked.A s.locked.n s.locked.c, .slice s.badLink.A s.badLink.n s.badLink.c, .slice s.on.A s.on.n s.on.c, .slice s.badSource.A s.badSource.n s.badSource.c, .slice s.earthed.A s.earthed.n s.earthed.c, .slice s.badBus.A s.badBus.n s.badBus.c]
/-- A state in memory. -/
structure SttIn (w : World) (B : Nat) (s : Stt) : Prop where
  closed : BsIn w B s.closed
  locked : BsIn w B s.locked
  badLink : BsIn w B s.badLink
  on : BsIn w B s.on
  badSource : BsIn w B s.badSource
  earthed : BsIn w B s.earthed
  badBus : BsIn w B s.badBus
theorem BsIn.keep {w w' : World} {B : Nat} {b : Bs} (h : BsIn w B b) (hk : ∀ q : Addr, q.block < B → w'.cell? q = w.cell? q) : BsIn w' B b := ⟨h.1.keep hk, h.2⟩
theorem BsIn.more {w : World} {B B' : Nat} {b : Bs} (h : BsIn w B b) (hB : B ≤ B') : BsIn w B' b := ⟨h.1.more hB, h.2⟩
theorem BsIn.below {w w' : World} {B : Nat} {b : Bs} (h : BsIn w B b) (hb : Below B w w') : BsIn w' B b := h.keep fun _ hp => hb.cell hp
theorem BsIn.next {w w' : World} {b : Bs} (h : BsIn w w.heap.size b) (hb : Below w.heap.size w w') : BsIn w' w'.heap.size b := (h.below hb).more hb.size
theorem SttIn.keep {w w' : World} {B : Nat} {s : Stt} (h : SttIn w B s) (hk : ∀ q : Addr, q.block < B → w'.cell? q = w.cell? q) : SttIn w' B s :=
  ⟨h.1.keep hk, h.2.keep hk, h.3.keep hk, h.4.keep hk, h.5.keep hk, h.6.keep hk, h.7.keep hk⟩
theorem SttIn.more {w : World} {B B' : Nat} {s : Stt} (h : SttIn w B s) (hB : B ≤ B') : SttIn w B' s :=
  ⟨h.1.more hB, h.2.more hB, h.3.more hB, h.4.more hB, h.5.more hB, h.6.more hB, h.7.more hB⟩
theorem SttIn.below {w w' : World} {B : Nat} {s : Stt} (h : SttIn w B s) (hb : Below B w w') : SttIn w' B s := h.keep fun _ hp => hb.cell hp
theorem SttIn.next {w w' : World} {s : Stt} (h : SttIn w w.heap.size s) (hb : Below w.heap.size w w') : SttIn w' w'.heap.size s := (h.below hb).more hb.size

/-- The cells of elements, one by one. -/
theorem Src.cells {w : World} {b o : Nat} {x : Src} (h : ∀ j u, x.enc[j]? = some u → w.cell? ⟨b, o + j, none⟩ = some u) :
    w.cell? ⟨b, o, none⟩ = some (.int .i64 x.bus) ∧ w.cell? ⟨b, o + 1, none⟩ = some (.int .i64 x.kind) ∧ w.cell? ⟨b, o + 2, none⟩ = some (.int .i64 x.power) ∧ w.cell? ⟨b, o + 3, none⟩ = some (.int .i64 x.sync) ∧ w.cell? ⟨b, o + 4, none⟩ = some (.int .i64 x.ohm) :=
  ⟨h 0 _ rfl, h 1 _ rfl, h 2 _ rfl, h 3 _ rfl, h 4 _ rfl⟩
theorem Trp.cells {w : World} {b o : Nat} {x : Trp} (h : ∀ j u, x.enc[j]? = some u → w.cell? ⟨b, o + j, none⟩ = some u) :
    w.cell? ⟨b, o, none⟩ = some (.int .i64 x.amps) ∧ w.cell? ⟨b, o + 1, none⟩ = some (.int .i64 x.millis) := ⟨h 0 _ rfl, h 1 _ rfl⟩
theorem Lnk.cells {w : World} {b o : Nat} {x : Lnk} (h : ∀ j u, x.enc[j]? = some u → w.cell? ⟨b, o + j, none⟩ = some u) :
    w.cell? ⟨b, o, none⟩ = some (.int .i64 x.a) ∧ w.cell? ⟨b, o + 1, none⟩ = some (.int .i64 x.b) ∧ w.cell? ⟨b, o + 2, none⟩ = some (.int .i64 x.kind) ∧ w.cell? ⟨b, o + 3, none⟩ = some (.int .i64 x.most) ∧ w.cell? ⟨b, o + 4, none⟩ = some (.int .i64 x.ohm) ∧ w.cell? ⟨b, o + 5, none⟩ = some (.slice x.tA x.tn x.tc) :=
  ⟨h 0 _ rfl, h 1 _ rfl, h 2 _ rfl, h 3 _ rfl, h 4 _ rfl, h 5 _ rfl⟩
theorem Rck.cells {w : World} {b o : Nat} {x : Rck} (h : ∀ j u, x.enc[j]? = some u → w.cell? ⟨b, o + j, none⟩ = some u) :
    w.cell? ⟨b, o, none⟩ = some (.int .i64 x.f0) ∧ w.cell? ⟨b, o + 1, none⟩ = some (.int .i64 x.f1) ∧ w.cell? ⟨b, o + 2, none⟩ = some (.int .i64 x.power) ∧ w.cell? ⟨b, o + 3, none⟩ = some (.int .i64 x.paths) :=
  ⟨h 0 _ rfl, h 1 _ rfl, h 2 _ rfl, h 3 _ rfl⟩
theorem cellB {w : World} {b o k : Nat} {x : Bool} (h : ∀ j u, (encB x)[j]? = some u → w.cell? ⟨b, o + k * 1 + j, none⟩ = some u) : w.cell? ⟨b, o + k, none⟩ = some (.bool x) := by simpa using h 0 _ rfl
theorem cellI {w : World} {b o k : Nat} {x : Int} (h : ∀ j u, (encI x)[j]? = some u → w.cell? ⟨b, o + k * 1 + j, none⟩ = some u) : w.cell? ⟨b, o + k, none⟩ = some (.int .i64 x) := by simpa using h 0 _ rfl
theorem cellBs {w : World} {b o k : Nat} {x : Bs} (h : ∀ j u, (encBs x)[j]? = some u → w.cell? ⟨b, o + k * 1 + j, none⟩ = some u) : w.cell? ⟨b, o + k, none⟩ = some (.slice x.A x.n x.c) := by simpa using h 0 _ rfl

theorem ret_bool {a b : Bool} (h : a = b) : Ending.returned (.bool a) = Ending.returned (.bool b) := by rw [h]
theorem ret_int {k : IntKind} {a b : Int} (h : a = b) : Ending.returned (.int k a) = Ending.returned (.int k b) := by rw [h]
theorem below_drewN {B : Nat} {a w : World} (h : Below B a w) (n : Nat) : Below B a (w.drewN n) := ⟨h.os, h.tape, h.output, h.size, h.block⟩
theorem below_after {B : Nat} {w W1 w' : World} (k : Below W1.heap.size W1 w') (hB : B ≤ w.heap.size) (h : Below B w W1) : Below B w w' := h.trans (k.mono (Nat.le_trans hB h.size))
theorem bcell {W w1 : World} (hb : Below W.heap.size W w1) : (∀ b o, b < W.heap.size → w1.cell? ⟨b, o, none⟩ = W.cell? ⟨b, o, none⟩) ∧ (∀ b o, b < W.heap.size → w1.frozen? ⟨b, o, none⟩ = W.frozen? ⟨b, o, none⟩) :=
  ⟨fun b o h => hb.cell (p := ⟨b, o, none⟩) h, fun b o h => hb.frozen (p := ⟨b, o, none⟩) h⟩
theorem flatMap_get {α : Type} {f : α → List Value} {size : Nat} : ∀ (l : List α), (∀ x ∈ l, (f x).length = size) → ∀ (i : Nat) (x : α), l[i]? = some x → ∀ (j : Nat) (u : Value), (f x)[j]? = some u → (l.flatMap f)[i * size + j]? = some u := by
  intro l
  induction l with
  | nil => intro _ i x hx; simp at hx
  | cons a l ih =>
    intro hf i x hx j u hu
    rw [List.flatMap_cons]
    cases i with
    | zero =>
      simp only [List.getElem?_cons_zero, Option.some.injEq] at hx
      subst hx
      obtain ⟨hj, _⟩ := List.getElem?_eq_some_iff.1 hu
      rw [Nat.zero_mul, Nat.zero_add, List.getElem?_append_left hj]
      exact hu
    | succ i =>
      have ha := hf a (List.mem_cons_self ..)
      rw [List.getElem?_append_right (by rw [ha, Nat.succ_mul]; omega), ha, Nat.succ_mul, show i * size + size + j - size = i * size + j by omega]
      exact ih (fun x hx => hf x (List.mem_cons_of_mem _ hx)) i x (by simpa using hx) j u hu
/-- A literal's block. -/
theorem Rd.lit {α : Type} (w : World) (T : TypeId) (f : α → List Value) (size : Nat) (l : List α) (hf : ∀ x ∈ l, (f x).length = size) :
    Rd (w.alloc (.cells (l.flatMap f).toArray T)) (w.heap.size + 1) size f (some ⟨w.heap.size, 0, none⟩) l.length l := by
  refine ⟨rfl, fun _ => ⟨w.heap.size, 0, rfl, by omega, fun i x hx j u hu => ?_⟩⟩
  rw [cell_of_row _ _ _ _ _ _ (heap_alloc_new w _), Nat.zero_add]
  simpa using flatMap_get l hf i x hx j u hu
/-- Cells that are known, each of a block that is there. -/
def Has (w : World) (cs : List (Nat × Nat × Value)) : Prop := ∀ x ∈ cs, x.1 < w.heap.size ∧ w.cell? ⟨x.1, x.2.1, none⟩ = some x.2.2
theorem Has.next {w w' : World} {cs : List (Nat × Nat × Value)} (h : Has w cs) (hb : Below w.heap.size w w') : Has w' cs :=
  fun x hx => ⟨Nat.lt_of_lt_of_le (h x hx).1 hb.size, (hb.cell (p := ⟨x.1, x.2.1, none⟩) (h x hx).1).trans (h x hx).2⟩
theorem Has.nil (w : World) : Has w [] := fun _ h => by simp at h
theorem Has.cons {w : World} {b o : Nat} {v : Value} {cs : List (Nat × Nat × Value)} (h1 : b < w.heap.size) (h2 : w.cell? ⟨b, o, none⟩ = some v) (h : Has w cs) : Has w ((b, o, v) :: cs) := by
  intro x hx
  rcases List.mem_cons.1 hx with rfl | hx
  · exact ⟨h1, h2⟩
  · exact h x hx
theorem Has.head {w : World} {b o : Nat} {v : Value} {cs : List (Nat × Nat × Value)} (h : Has w ((b, o, v) :: cs)) : b < w.heap.size ∧ w.cell? ⟨b, o, none⟩ = some v ∧ Has w cs :=
  ⟨(h _ (List.mem_cons_self ..)).1, (h _ (List.mem_cons_self ..)).2, fun x hx => h x (List.mem_cons_of_mem _ hx)⟩
end Go.Proofs.Ytcecbohaajocfaa
