/- How a play lies in memory, and what a call keeps of the rest. -/
import Derived.Test.YtnpkcipeacogcaaBkP
import Derived.Test.YtnpkcipeacogcaaFree6
import Derived.Test.YtnpkcipeacogcaaProg
import Derived.Lib.Hide
import Derived.KernelRfl

set_option linter.unusedSimpArgs false
set_option linter.unusedVariables false
namespace Go.Proofs.Ytnpkcipeacogcaa
open Go.RowKit

/-- All blocks but those of S are as they were. -/
structure Keep (S : Nat → Prop) (w w' : World) : Prop where
  os : w'.os = w.os
  tape : w'.tape = w.tape
  output : w'.output = w.output
  size : w.heap.size ≤ w'.heap.size
  block : ∀ k, k < w.heap.size → ¬ S k → w'.heap[k]? = w.heap[k]?
section
variable {S S' : Nat → Prop} {w w1 w2 : World}
theorem Keep.refl (S : Nat → Prop) (w : World) : Keep S w w := ⟨rfl, rfl, rfl, Nat.le_refl _, fun _ _ _ => rfl⟩
theorem Keep.trans (h : Keep S w w1) (k : Keep S w1 w2) : Keep S w w2 :=
  ⟨k.os.trans h.os, k.tape.trans h.tape, k.output.trans h.output, Nat.le_trans h.size k.size, fun i hi hs => (k.block i (Nat.lt_of_lt_of_le hi h.size) hs).trans (h.block i hi hs)⟩
theorem Keep.mono (h : Keep S w w1) (hs : ∀ b, S b → S' b) : Keep S' w w1 := ⟨h.os, h.tape, h.output, h.size, fun k hk hn => h.block k hk (fun hS => hn (hs k hS))⟩
theorem Keep.of_below (h : Below w.heap.size w w1) : Keep S w w1 := ⟨h.os, h.tape, h.output, h.size, fun k hk _ => h.block k hk⟩
theorem Keep.drew (h : Keep S w w1) : Keep S w w1.drew := ⟨h.os, h.tape, h.output, h.size, h.block⟩
theorem Keep.alloc (h : Keep S w w1) (o : Obj) : Keep S w (w1.alloc o) := h.trans (Keep.of_below ((Below.refl _ _).alloc (Nat.le_refl _) o))
theorem Keep.setCell (h : Keep S w w1) {p : Addr} (hp : S p.block) (u : Value) : Keep S w (w1.setCell p u) :=
  h.trans ⟨rfl, rfl, rfl, by simp [World.setCell], fun k hk hn => Below.heap_setCell _ _ _ _ (fun e => hn (e ▸ hp))⟩
/-- What is written lies from B on: below it all is as it was. -/
theorem Keep.below {B : Nat} (h : Keep S w w1) (hB : B ≤ w.heap.size) (hs : ∀ b, S b → B ≤ b) : Below B w w1 :=
  ⟨h.os, h.tape, h.output, h.size, fun k hk => h.block k (by omega) (fun hS => by have := hs k hS; omega)⟩
theorem Keep.cell (h : Keep S w w1) {b o : Nat} {v : Value} (hb : b < w.heap.size) (hn : ¬ S b) (hc : w.cell? ⟨b, o, none⟩ = some v) : w1.cell? ⟨b, o, none⟩ = some v :=
  (World.cell?_of_block (w := w) (h.block b hb hn)).trans hc
theorem Keep.blk (h : Keep S w w1) {b : Nat} {t : TypeId} {cs : Array Value} (hb : Blk w b t cs) (hn : ¬ S b) : Blk w1 b t cs := (h.block b hb.lt hn).trans hb
end

/-- A row of elements, one after the other at the head of a block; nothing is said of an empty one. -/
def RowW {α : Type} (w : World) (b : Nat) (T : TypeId) (f : α → List Value) (A : Option Addr) (l : List α) : Prop :=
  l = [] ∨ (A = some ⟨b, 0, none⟩ ∧ ∃ cur, Blk w b T cur ∧ ∀ (j : Nat) u, (l.flatMap f)[j]? = some u → cur[j]? = some u)
section
variable {α : Type} {w w' : World} {b size : Nat} {T : TypeId} {f : α → List Value} {A : Option Addr} {l : List α}
theorem flat_set (hf : ∀ x, (f x).length = size) : ∀ (l : List α) (i : Nat) (x x' : α) (j : Nat) (u : Value), l[i]? = some x → j < size → f x' = (f x).set j u → (l.set i x').flatMap f = (l.flatMap f).set (i * size + j) u := by
  intro l
  induction l with
  | nil => intro i x x' j u h; simp at h
  | cons a l ih =>
    intro i x x' j u h hj hx
    cases i with
    | zero =>
      simp only [List.getElem?_cons_zero, Option.some.injEq] at h
      subst h
      rw [List.set_cons_zero, List.flatMap_cons, List.flatMap_cons, hx, Nat.zero_mul, Nat.zero_add, List.set_append_left _ _ (by rw [hf]; exact hj)]
    | succ i =>
      rw [List.set_cons_succ, List.flatMap_cons, List.flatMap_cons, ih i x x' j u (by simpa using h) hj hx, List.set_append_right _ _ (by rw [hf, Nat.succ_mul]; omega), hf, Nat.succ_mul, show i * size + size + j - size = i * size + j by omega]
theorem RowW.at_ (hf : ∀ x, (f x).length = size) (h : RowW w b T f A l) {i : Nat} {x : α} (hx : l[i]? = some x) :
    A = some ⟨b, 0, none⟩ ∧ b < w.heap.size ∧ (∀ o, w.frozen? ⟨b, o, none⟩ = false) ∧ ∀ j u, (f x)[j]? = some u → w.cell? ⟨b, i * size + j, none⟩ = some u := by
  rcases h with rfl | ⟨hA, cur, hb, hc⟩
  · simp at hx
  · exact ⟨hA, hb.lt, hb.frozen, fun j u hu => (hb.cell _).trans (hc _ _ (flatMap_get l (fun x _ => hf x) i x hx j u hu))⟩
theorem RowW.set_ (hf : ∀ x, (f x).length = size) (h : RowW w b T f A l) {i : Nat} {x x' : α} {j : Nat} {u : Value} (hx : l[i]? = some x) (hj : j < size) (hu : f x' = (f x).set j u) : RowW (w.setCell ⟨b, i * size + j, none⟩ u) b T f A (l.set i x') := by
  rcases h with rfl | ⟨hA, cur, hb, hc⟩
  · simp at hx
  · refine Or.inr ⟨hA, _, hb.set_ _ u, fun k v hv => ?_⟩
    rw [flat_set hf l i x x' j u hx hj hu] at hv
    have hlt : i * size + j < (l.flatMap f).length := by
      have h1 := flatMap_get l (fun x _ => hf x) i x hx j ((f x)[j]'(by rw [hf]; exact hj)) (List.getElem?_eq_getElem (by rw [hf]; exact hj))
      exact (List.getElem?_eq_some_iff.1 h1).1
    rw [List.getElem?_set] at hv
    rw [Array.getElem?_setIfInBounds]
    split at hv
    · rename_i e
      subst e
      rw [if_pos rfl, if_pos]
      · first | exact hv | (rw [if_pos hlt] at hv; exact hv)
      · have := hc _ _ (List.getElem?_eq_getElem hlt)
        exact (Array.getElem?_eq_some_iff.1 this).1
    · rename_i e
      rw [if_neg e]
      exact hc _ _ hv
theorem RowW.kept (h : RowW w b T f A l) (hk : l ≠ [] → ∀ cur, Blk w b T cur → Blk w' b T cur) : RowW w' b T f A l := by
  rcases h with rfl | ⟨hA, cur, hb, hc⟩
  · exact Or.inl rfl
  · by_cases hl : l = []
    · exact Or.inl hl
    · exact Or.inr ⟨hA, cur, hk hl cur hb, hc⟩
end

def Bat.enc (b : Bat) : List Value := [.int .i64 b.energy, .int .i64 b.full, .int .i64 b.power, .int .i64 b.charge]
def Gen.enc (g : Gen) : List Value := [.int .i64 g.power, .int .i64 g.ramp, .int .i64 g.delay, .int .i64 g.pause, .int .i64 g.tries]
def Spn.enc (s : Spn) : List Value := [.int .i64 s.secs, .int .i64 s.power]
def Cel.enc (c : Cel) : List Value := [.int .i64 c.bat.energy, .int .i64 c.bat.full, .int .i64 c.bat.power, .int .i64 c.bat.charge, .int .i64 c.held]
def Eng.enc (e : Eng) : List Value := [.int .i64 e.gen.power, .int .i64 e.gen.ramp, .int .i64 e.gen.delay, .int .i64 e.gen.pause, .int .i64 e.gen.tries, .int .i64 e.since, .int .i64 e.burnt, .int .i64 e.spare]
theorem Cel.enc_len (c : Cel) : c.enc.length = 5 := rfl
theorem Eng.enc_len (e : Eng) : e.enc.length = 8 := rfl
theorem Bat.enc_len (c : Bat) : c.enc.length = 4 := rfl
theorem Gen.enc_len (e : Gen) : e.enc.length = 5 := rfl
theorem Spn.enc_len (e : Spn) : e.enc.length = 2 := rfl
/-- Values as they are handed on. -/
def Bat.val (b : Bat) : Value := .agg #[.int .i64 b.energy, .int .i64 b.full, .int .i64 b.power, .int .i64 b.charge]
def Gen.val (g : Gen) : Value := .agg #[.int .i64 g.power, .int .i64 g.ramp, .int .i64 g.delay, .int .i64 g.pause, .int .i64 g.tries]
def Cel.val (c : Cel) : Value := .agg #[.int .i64 c.bat.energy, .int .i64 c.bat.full, .int .i64 c.bat.power, .int .i64 c.bat.charge, .int .i64 c.held]
def Eng.val (e : Eng) : Value := .agg #[.int .i64 e.gen.power, .int .i64 e.gen.ramp, .int .i64 e.gen.delay, .int .i64 e.gen.pause, .int .i64 e.gen.tries, .int .i64 e.since, .int .i64 e.burnt, .int .i64 e.spare]
def Spn.val (s : Spn) : Value := .agg #[.int .i64 s.secs, .int .i64 s.power]

/-- Where a play lies. -/
structure Adr where
  (bp bc be : Nat)
  (cA eA : Option Addr)
  (nc cc ne ec : Nat)
def Adr.mine (a : Adr) (b : Nat) : Prop := b = a.bp ∨ (0 < a.nc ∧ b = a.bc) ∨ (0 < a.ne ∧ b = a.be)
def Adr.ptr (a : Adr) : Value := .pointer (some ⟨a.bp, 0, none⟩)
/-- A play in memory. -/
structure PlyIn (w : World) (a : Adr) (p : Ply) : Prop where
  blk : Blk w a.bp 89 #[.slice a.cA a.nc a.cc, .slice a.eA a.ne a.ec, .int .i64 p.dark, .int .i64 p.served, .int .i64 p.lacking]
  cs : RowW w a.bc 91 Cel.enc a.cA p.cs
  es : RowW w a.be 94 Eng.enc a.eA p.es
  nc : p.cs.length = a.nc
  ne : p.es.length = a.ne
  d1 : 0 < a.nc → a.bc ≠ a.bp
  d2 : 0 < a.ne → a.be ≠ a.bp
  d3 : 0 < a.nc → 0 < a.ne → a.bc ≠ a.be
  hc : a.nc ≤ 100
  he : a.ne ≤ 100
section
variable {w w' : World} {a : Adr} {p : Ply}
theorem PlyIn.kept (h : PlyIn w a p) (hk : ∀ b t cur, a.mine b → Blk w b t cur → Blk w' b t cur) : PlyIn w' a p :=
  ⟨hk _ _ _ (Or.inl rfl) h.blk,
   h.cs.kept (fun hl cur hb => hk _ _ _ (Or.inr (Or.inl ⟨by have := h.nc; have := List.length_pos_iff.2 hl; omega, rfl⟩)) hb),
   h.es.kept (fun hl cur hb => hk _ _ _ (Or.inr (Or.inr ⟨by have := h.ne; have := List.length_pos_iff.2 hl; omega, rfl⟩)) hb),
   h.nc, h.ne, h.d1, h.d2, h.d3, h.hc, h.he⟩
theorem PlyIn.alloc (h : PlyIn w a p) (o : Obj) : PlyIn (w.alloc o) a p := h.kept fun _ _ _ _ hb => hb.alloc o
theorem PlyIn.next (h : PlyIn w a p) (hb : Below w.heap.size w w') : PlyIn w' a p := h.kept fun _ _ _ _ k => k.below hb k.lt
theorem PlyIn.drew (h : PlyIn w a p) : PlyIn w.drew a p := h.kept fun _ _ _ _ k => k
theorem PlyIn.keep {S : Nat → Prop} (h : PlyIn w a p) (hb : Keep S w w') (hs : ∀ b, a.mine b → ¬ S b) : PlyIn w' a p := h.kept fun b _ _ hm k => hb.blk k (hs b hm)
theorem PlyIn.far (h : PlyIn w a p) {q : Addr} (hq : ¬ a.mine q.block) (u : Value) : PlyIn (w.setCell q u) a p := h.kept fun b _ _ hm k => k.far (fun e => hq (e ▸ hm)) u
theorem PlyIn.mine_lt (h : PlyIn w a p) {b : Nat} (hm : a.mine b) : b < w.heap.size := by
  rcases hm with rfl | ⟨hn, rfl⟩ | ⟨hn, rfl⟩
  · exact h.blk.lt
  · rcases h.cs with h1 | ⟨_, _, h1, _⟩
    · have := h.nc; rw [h1] at this; simp at this; omega
    · exact h1.lt
  · rcases h.es with h1 | ⟨_, _, h1, _⟩
    · have := h.ne; rw [h1] at this; simp at this; omega
    · exact h1.lt
/-- The play's own cells. -/
theorem PlyIn.head (h : PlyIn w a p) : a.bp < w.heap.size ∧ w.cell? ⟨a.bp, 0, none⟩ = some (.slice a.cA a.nc a.cc) ∧ w.cell? ⟨a.bp, 1, none⟩ = some (.slice a.eA a.ne a.ec) ∧ w.cell? ⟨a.bp, 2, none⟩ = some (.int .i64 p.dark) ∧ w.cell? ⟨a.bp, 3, none⟩ = some (.int .i64 p.served) ∧ w.cell? ⟨a.bp, 4, none⟩ = some (.int .i64 p.lacking) :=
  ⟨h.blk.lt, h.blk.cell 0, h.blk.cell 1, h.blk.cell 2, h.blk.cell 3, h.blk.cell 4⟩
theorem PlyIn.cel (h : PlyIn w a p) {i : Nat} {c : Cel} (hx : p.cs[i]? = some c) : i < a.nc ∧ a.cA = some ⟨a.bc, 0, none⟩ ∧ a.bc < w.heap.size ∧ (∀ o, w.frozen? ⟨a.bc, o, none⟩ = false) ∧
    w.cell? ⟨a.bc, i * 5, none⟩ = some (.int .i64 c.bat.energy) ∧ w.cell? ⟨a.bc, i * 5 + 1, none⟩ = some (.int .i64 c.bat.full) ∧ w.cell? ⟨a.bc, i * 5 + 2, none⟩ = some (.int .i64 c.bat.power) ∧ w.cell? ⟨a.bc, i * 5 + 3, none⟩ = some (.int .i64 c.bat.charge) ∧ w.cell? ⟨a.bc, i * 5 + 4, none⟩ = some (.int .i64 c.held) := by
  obtain ⟨h1, h2, h3, h4⟩ := h.cs.at_ Cel.enc_len hx
  exact ⟨by rw [← h.nc]; exact (List.getElem?_eq_some_iff.1 hx).1, h1, h2, h3, h4 0 _ rfl, h4 1 _ rfl, h4 2 _ rfl, h4 3 _ rfl, h4 4 _ rfl⟩
theorem PlyIn.eng (h : PlyIn w a p) {i : Nat} {e : Eng} (hx : p.es[i]? = some e) : i < a.ne ∧ a.eA = some ⟨a.be, 0, none⟩ ∧ a.be < w.heap.size ∧ (∀ o, w.frozen? ⟨a.be, o, none⟩ = false) ∧
    w.cell? ⟨a.be, i * 8, none⟩ = some (.int .i64 e.gen.power) ∧ w.cell? ⟨a.be, i * 8 + 1, none⟩ = some (.int .i64 e.gen.ramp) ∧ w.cell? ⟨a.be, i * 8 + 5, none⟩ = some (.int .i64 e.since) ∧ w.cell? ⟨a.be, i * 8 + 6, none⟩ = some (.int .i64 e.burnt) ∧ w.cell? ⟨a.be, i * 8 + 7, none⟩ = some (.int .i64 e.spare) := by
  obtain ⟨h1, h2, h3, h4⟩ := h.es.at_ Eng.enc_len hx
  exact ⟨by rw [← h.ne]; exact (List.getElem?_eq_some_iff.1 hx).1, h1, h2, h3, h4 0 _ rfl, h4 1 _ rfl, h4 5 _ rfl, h4 6 _ rfl, h4 7 _ rfl⟩
theorem PlyIn.setE (h : PlyIn w a p) {i j : Nat} {e e' : Eng} {u : Value} (hx : p.es[i]? = some e) (hj : j < 8) (hu : e'.enc = e.enc.set j u) : PlyIn (w.setCell ⟨a.be, i * 8 + j, none⟩ u) a { p with es := p.es.set i e' } := by
  have hn : 0 < a.ne := by have := (h.eng hx).1; omega
  refine ⟨h.blk.far (fun e => h.d2 hn e.symm) u, h.cs.kept (fun hl cur hb => hb.far (fun e => h.d3 (by have := h.nc; have := List.length_pos_iff.2 hl; omega) hn e) u), h.es.set_ Eng.enc_len hx hj hu, h.nc, by simpa using h.ne, h.d1, h.d2, h.d3, h.hc, h.he⟩
theorem PlyIn.setC (h : PlyIn w a p) {i j : Nat} {c c' : Cel} {u : Value} (hx : p.cs[i]? = some c) (hj : j < 5) (hu : c'.enc = c.enc.set j u) : PlyIn (w.setCell ⟨a.bc, i * 5 + j, none⟩ u) a { p with cs := p.cs.set i c' } := by
  have hn : 0 < a.nc := by have := (h.cel hx).1; omega
  refine ⟨h.blk.far (fun e => h.d1 hn e.symm) u, h.cs.set_ Cel.enc_len hx hj hu, h.es.kept (fun hl cur hb => hb.far (fun e => h.d3 hn (by have := h.ne; have := List.length_pos_iff.2 hl; omega) e.symm) u), by simpa using h.nc, h.ne, h.d1, h.d2, h.d3, h.hc, h.he⟩
theorem PlyIn.setP (h : PlyIn w a p) {j : Nat} {p' : Ply} {u : Value} (hcs : p'.cs = p.cs) (hes : p'.es = p.es)
    (hu : #[Value.slice a.cA a.nc a.cc, .slice a.eA a.ne a.ec, .int .i64 p'.dark, .int .i64 p'.served, .int .i64 p'.lacking] = (#[Value.slice a.cA a.nc a.cc, .slice a.eA a.ne a.ec, .int .i64 p.dark, .int .i64 p.served, .int .i64 p.lacking]).setIfInBounds j u) : PlyIn (w.setCell ⟨a.bp, j, none⟩ u) a p' := by
  refine ⟨by rw [hu]; exact h.blk.set_ j u, ?_, ?_, by rw [hcs]; exact h.nc, by rw [hes]; exact h.ne, h.d1, h.d2, h.d3, h.hc, h.he⟩
  · rw [hcs]; exact h.cs.kept (fun hl cur hb => hb.far (h.d1 (by have := h.nc; have := List.length_pos_iff.2 hl; omega)) u)
  · rw [hes]; exact h.es.kept (fun hl cur hb => hb.far (h.d2 (by have := h.ne; have := List.length_pos_iff.2 hl; omega)) u)
end

/-- Valid numbers. -/
structure BatOk (b : Bat) : Prop where
  e0 : 0 ≤ b.energy
  ef : b.energy ≤ b.full
  f1 : b.full ≤ 100000000000
  p0 : 0 ≤ b.power
  p1 : b.power ≤ 1000000
  c0 : 0 ≤ b.charge
  c1 : b.charge ≤ 1000000
structure GenOk (g : Gen) : Prop where
  p0 : 0 ≤ g.power
  p1 : g.power ≤ 1000000
  r0 : 0 ≤ g.ramp
  r1 : g.ramp ≤ 1000000
  d0 : 0 ≤ g.delay
  d1 : g.delay ≤ 3600
  q0 : 0 ≤ g.pause
  q1 : g.pause ≤ 3600
  t0 : 1 ≤ g.tries
  t1 : g.tries ≤ 5
structure SpnOk (s : Spn) : Prop where
  s0 : 1 ≤ s.secs
  s1 : s.secs ≤ 3600
  p0 : 0 ≤ s.power
  p1 : s.power ≤ 1000000
structure CelOk (c : Cel) : Prop where
  bat : BatOk c.bat
  h0 : 0 ≤ c.held
  h1 : c.held ≤ c.bat.full
structure EngOk (B : Int) (e : Eng) : Prop where
  gen : GenOk e.gen
  s0 : -1 ≤ e.since
  s1 : e.since ≤ 100000
  p0 : 0 ≤ e.spare
  p1 : e.spare ≤ 1000000
  b0 : 0 ≤ e.burnt
  b1 : e.burnt + e.spare ≤ B
theorem Cel.able_bd {c : Cel} (h : CelOk c) : 0 ≤ c.able ∧ c.able ≤ c.held ∧ c.able ≤ c.bat.power := by
  have := h.h0; have := h.bat.p0
  unfold Cel.able; omega
theorem Cel.room_bd {c : Cel} (h : CelOk c) : 0 ≤ c.room ∧ c.room ≤ c.bat.full - c.held ∧ c.room ≤ c.bat.charge := by
  have := h.h1; have := h.bat.c0
  unfold Cel.room; omega
theorem drawF_ok {B m g : Int} {e : Eng} (hg : 0 ≤ g ∧ g ≤ m) (h : EngOk B e) : EngOk B (drawF m g e).1 ∧ 0 ≤ (drawF m g e).2 ∧ (drawF m g e).2 ≤ m := by
  obtain ⟨h1, h2, h3, h4, h5, h6, h7⟩ := h
  refine ⟨⟨h1, h2, h3, ?_, ?_, ?_, ?_⟩, ?_, ?_⟩ <;> simp only [drawF] <;> omega
theorem drawL_ok {B m : Int} {es : List Eng} (hm : 0 ≤ m) (h : ∀ e ∈ es, EngOk B e) : (∀ e ∈ (drawL m es).1, EngOk B e) ∧ 0 ≤ (drawL m es).2 ∧ (drawL m es).2 ≤ m :=
  accL_inv (P := fun g => 0 ≤ g ∧ g ≤ m) (Q := EngOk B) (R := EngOk B) (fun s a hs ha => drawF_ok hs ha) es 0 ⟨Int.le_refl _, hm⟩ h
theorem drawSt_ok {B m : Int} {es : List Eng} (hm : 0 ≤ m) (h : ∀ e ∈ es, EngOk B e) (k : Nat) : 0 ≤ accSt (drawF m) 0 es k ∧ accSt (drawF m) 0 es k ≤ m :=
  (drawL_ok hm (fun e he => h e (List.mem_of_mem_take he)) : _ ∧ 0 ≤ (drawL m (es.take k)).2 ∧ (drawL m (es.take k)).2 ≤ m).2
theorem drawL_length (m : Int) (es : List Eng) : (drawL m es).1.length = es.length := accL_length es 0
theorem giveF_ok {n : Int} {c : Cel} (hn : 0 ≤ n) (h : CelOk c) : CelOk (giveF n c).1 ∧ 0 ≤ (giveF n c).2 ∧ (giveF n c).2 ≤ n := by
  obtain ⟨h1, h2, h3⟩ := Cel.able_bd h
  obtain ⟨g1, g2, g3⟩ := h
  refine ⟨⟨g1, ?_, ?_⟩, ?_, ?_⟩ <;> simp only [giveF] <;> omega
theorem giveL_ok {n : Int} {cs : List Cel} (hn : 0 ≤ n) (h : ∀ c ∈ cs, CelOk c) : (∀ c ∈ (giveL n cs).1, CelOk c) ∧ 0 ≤ (giveL n cs).2 ∧ (giveL n cs).2 ≤ n :=
  accL_inv (P := fun g => 0 ≤ g ∧ g ≤ n) (Q := CelOk) (R := CelOk) (fun s a hs ha => by have := giveF_ok hs.1 ha; exact ⟨this.1, this.2.1, by omega⟩) cs n ⟨hn, Int.le_refl _⟩ h
theorem giveL_length (m : Int) (es : List Cel) : (giveL m es).1.length = es.length := accL_length es m
theorem chargeF_ok {B : Int} {es : List Eng} {c : Cel} (he : ∀ e ∈ es, EngOk B e) (h : CelOk c) : CelOk (chargeF es c).1 ∧ ∀ e ∈ (chargeF es c).2, EngOk B e := by
  obtain ⟨r0, r1, r2⟩ := Cel.room_bd h
  obtain ⟨d1, d2, d3⟩ := drawL_ok r0 he
  obtain ⟨g1, g2, g3⟩ := h
  refine ⟨⟨g1, ?_, ?_⟩, d1⟩ <;> simp only [chargeF] <;> omega
theorem chargeL_ok {B : Int} {es : List Eng} {cs : List Cel} (he : ∀ e ∈ es, EngOk B e) (h : ∀ c ∈ cs, CelOk c) : (∀ c ∈ (chargeL es cs).1, CelOk c) ∧ ∀ e ∈ (chargeL es cs).2, EngOk B e :=
  accL_inv (P := fun es => ∀ e ∈ es, EngOk B e) (Q := CelOk) (R := CelOk) (fun s a hs ha => chargeF_ok hs ha) cs es he h
theorem chargeL_length (es : List Eng) (cs : List Cel) : (chargeL es cs).1.length = cs.length := accL_length cs es
theorem charge_es_length (es : List Eng) (cs : List Cel) : (chargeL es cs).2.length = es.length := by
  have h : ∀ (cs : List Cel) (es : List Eng), (accL chargeF es cs).2.length = es.length := by
    intro cs
    induction cs with
    | nil => intro es; rfl
    | cons c cs ih => intro es; simp only [accL, ih, chargeF, drawL_length]
  exact h cs es
end Go.Proofs.Ytnpkcipeacogcaa
