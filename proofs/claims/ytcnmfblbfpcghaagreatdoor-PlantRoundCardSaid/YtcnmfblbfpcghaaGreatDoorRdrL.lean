/- (*plant.reader).link. -/
import Derived.Test.YtcnmfblbfpcghaaGreatDoorTxtP

set_option linter.unusedSimpArgs false
set_option linter.unusedVariables false
namespace Go.Proofs.YtcnmfblbfpcghaaGreatDoor
open Go.RowKit Go.Shelf

/-- strings.Split by one byte. -/
theorem split_any (c : UInt8) (x : List UInt8) (w : World) (hT : Tabs w) (hx : x.length ≤ 200000) :
    Calls Tryz.prog 110 #[.string (ba x), .string ⟨#[c]⟩] w fun e w' => e = .returned (.slice (some ⟨w.heap.size, 0, none⟩) (splitC c x).length (splitC c x).length) ∧ Below w.heap.size w w' ∧ WordsAt w' w.heap.size (splitC c x) := by
  obtain ⟨m, hm⟩ := hT.max
  have hs := split_one c x.length x (Nat.le_refl _)
  have hd := Lib.splitB_data ⟨#[c]⟩ 0 (Lib.countB (ba x) ⟨#[c]⟩) (ba x)
  rw [show (ba x).data.toList = x from rfl, show (⟨#[c]⟩ : ByteArray).data.toList = [c] from rfl] at hd
  have hd2 : (Lib.splitB ⟨#[c]⟩ 0 (Lib.countB (ba x) ⟨#[c]⟩) (ba x)).map (·.data.toList) = splitC c x := hd.trans hs
  have hlen : (splitC c x).length = Lib.countB (ba x) ⟨#[c]⟩ + 1 := by
    rw [← hd2, List.length_map]
    exact Lib.splitB_all ⟨#[c]⟩ (Nat.le_refl 1) 0 _ (ba x) rfl
  refine (strings_Split (ba x) ⟨#[c]⟩ m w (by rw [ba_len]; omega) hm (Nat.le_refl 1)).mono fun e w' ⟨h1, h2⟩ => ?_
  have hv : (Lib.splitB ⟨#[c]⟩ 0 (Lib.countB (ba x) ⟨#[c]⟩) (ba x)).map Value.string = strVals (splitC c x) := by
    rw [← hd2]
    unfold strVals
    rw [List.map_map]
    apply List.map_congr_left
    intro y _
    show Value.string y = Value.string (ba y.data.toList)
    congr 1
  refine ⟨by rw [h1, hlen], by rw [h2]; exact (Below.refl _ _).alloc (Nat.le_refl _) _, ?_⟩
  rw [h2, hv]
  exact heap_alloc_new w _
theorem splitC_len (c : UInt8) : ∀ (s : List UInt8), ∀ w ∈ splitC c s, w.length ≤ s.length := by
  intro s
  induction s with
  | nil => intro w hw; simp [splitC] at hw; subst hw; simp
  | cons x r ih =>
    intro w hw
    obtain ⟨y, l, hy⟩ := splitC_cons c r
    unfold splitC at hw
    rw [hy] at hw ih
    split at hw
    · rcases List.mem_cons.1 hw with rfl | hw
      · simp
      · have := ih w hw
        rw [List.length_cons]
        omega
    · rcases List.mem_cons.1 hw with rfl | hw
      · have := ih y (List.mem_cons_self ..)
        rw [List.headD_cons, List.length_cons, List.length_cons]
        omega
      · have := ih w (List.mem_cons_of_mem _ hw)
        rw [List.length_cons]
        omega
theorem splitC_many (c : UInt8) : ∀ (s : List UInt8), (splitC c s).length ≤ s.length + 1 := by
  intro s
  induction s with
  | nil => simp [splitC]
  | cons x r ih =>
    obtain ⟨y, l, hy⟩ := splitC_cons c r
    unfold splitC
    rw [hy] at ih ⊢
    simp only [List.length_cons] at ih
    split <;> simp only [List.length_cons, List.tail_cons] <;> omega

def l3Phi (wb wc n N : Nat) (a0 b0 m0 o0 : List UInt8) : Nat → Value → World → (Nat → Nat) → Prop
  | 0, v, _, _ => v = .slice (some ⟨wb, 1, none⟩) n wc
  | 1, v, _, _ => v = .slice (some ⟨wb, 1, none⟩) 2 wc
  | 2, v, W, _ => ∃ g1 a, numAll [a0, b0] = some a ∧ v = .slice (some ⟨g1, 0, none⟩) 2 2 ∧ N ≤ g1 ∧ IntB W g1 a
  | 3, v, _, _ => v = .slice (some ⟨wb, 1, none⟩) n wc
  | 4, v, _, _ => v = .slice (some ⟨wb, 4, none⟩) 2 (wc - 3)
  | 5, v, W, _ => ∃ g1 a, numAll [m0, o0] = some a ∧ v = .slice (some ⟨g1, 0, none⟩) 2 2 ∧ N ≤ g1 ∧ IntB W g1 a
  | 6, v, W, _ => ∃ g1 a, numAll [a0, b0] = some a ∧ v = .slice (some ⟨g1, 0, none⟩) 2 2 ∧ N ≤ g1 ∧ IntB W g1 a
  | 7, v, W, _ => ∃ g1 a, numAll [m0, o0] = some a ∧ v = .slice (some ⟨g1, 0, none⟩) 2 2 ∧ N ≤ g1 ∧ IntB W g1 a
  | _, _, _, _ => True
theorem l3Phi_kept {wb wc n N : Nat} {a0 b0 m0 o0 : List UInt8} {W W' : World} {γ γ' : Nat → Nat} (hb : Below W.heap.size W W') (j : Nat) (v : Value) (hv : l3Phi wb wc n N a0 b0 m0 o0 j v W γ) : l3Phi wb wc n N a0 b0 m0 o0 j v W' γ' := by
  unfold l3Phi at hv ⊢
  split at hv <;> first | exact hv | trivial | (obtain ⟨g1, a, h1, h2, h3, h4⟩ := hv; exact ⟨g1, a, h1, h2, h3, Blk.below h4 hb (Blk.lt h4)⟩)

structure L4R (w : World) (g1 g2 : Nat) (x y m o : Int) (W : World) : Prop where
  near : Below w.heap.size w W
  n1 : IntB W g1 [x, y]
  n2 : IntB W g2 [m, o]
theorem L4R.next {w : World} {g1 g2 : Nat} {x y m o : Int} {W W' : World} (h : L4R w g1 g2 x y m o W) (hb : Below W.heap.size W W') : L4R w g1 g2 x y m o W' :=
  ⟨h.near.trans (hb.mono h.near.size), Blk.below h.n1 hb (Blk.lt h.n1), Blk.below h.n2 hb (Blk.lt h.n2)⟩
theorem blk_ne {W : World} {a b : Nat} {T U : TypeId} {cs ds : Array Value} (h : Blk W a T cs) (h' : Blk W b U ds) (hT : T ≠ U) : a ≠ b := by
  rintro rfl
  have e2 := (show W.heap[a]? = _ from h).symm.trans h'
  simp only [Option.some.injEq, Obj.cells.injEq] at e2
  exact hT e2.2.1
theorem L4R.store {w : World} {g1 g2 X : Nat} {x y m o : Int} {W W' : World} {cs : Array Value} (h : L4R w g1 g2 x y m o W) (hX : w.heap.size ≤ X) (hk : W.grownBy W' (some X)) (hb : Blk W X 79 cs) : L4R w g1 g2 x y m o W' :=
  ⟨h.near.grown hk h.near.size (fun k e => by cases e; exact hX), Blk.kept h.n1 hk (fun e => blk_ne h.n1 hb (by decide) (Option.some.inj e)), Blk.kept h.n2 hk (fun e => blk_ne h.n2 hb (by decide) (Option.some.inj e))⟩
def l4Phi (w : World) (g1 g2 : Nat) (x y kk m o : Int) : Nat → Value → World → (Nat → Nat) → Prop
  | 0, v, _, _ => v = .slice (some ⟨g1, 0, none⟩) 2 2
  | 1, v, _, _ => v = .pointer (some ⟨g1, 0, none⟩)
  | 2, v, _, _ => v = .int .i64 x
  | 3, v, _, _ => v = .slice (some ⟨g1, 0, none⟩) 2 2
  | 4, v, _, _ => v = .pointer (some ⟨g1, 1, none⟩)
  | 5, v, _, _ => v = .int .i64 y
  | 6, v, _, _ => v = .int .i64 kk
  | 7, v, _, _ => v = .slice (some ⟨g2, 0, none⟩) 2 2
  | 8, v, _, _ => v = .pointer (some ⟨g2, 0, none⟩)
  | 9, v, _, _ => v = .int .i64 m
  | 10, v, _, _ => v = .slice (some ⟨g2, 0, none⟩) 2 2
  | 11, v, _, _ => v = .pointer (some ⟨g2, 1, none⟩)
  | 12, v, _, _ => v = .int .i64 o
  | 13, v, _, _ => v = .agg #[.int .i64 x, .int .i64 y, .int .i64 kk, .int .i64 m, .int .i64 o, .slice none 0 0]
  | 14, v, W, γ => v = .pointer (some ⟨γ 0, 0, none⟩) ∧ w.heap.size ≤ γ 0 ∧ ∃ c0 c1 c2 c3 c4 c5, Blk W (γ 0) 79 #[c0, c1, c2, c3, c4, c5]
  | 15, _, W, γ => Blk W (γ 0) 79 #[.int .i64 x, .int .i64 y, .int .i64 kk, .int .i64 m, .int .i64 o, .slice none 0 0]
  | _, _, _, _ => True
theorem l4Phi_kept {w : World} {g1 g2 : Nat} {x y kk m o : Int} {W W' : World} {γ γ' : Nat → Nat} (hb : Below W.heap.size W W') (j : Nat) (v : Value) (h15 : j ≠ 15) (h14 : j ≠ 14) (hv : l4Phi w g1 g2 x y kk m o j v W γ) : l4Phi w g1 g2 x y kk m o j v W' γ' := by
  unfold l4Phi at hv ⊢
  split at hv <;> first | exact hv | trivial | exact absurd rfl h15 | exact absurd rfl h14
theorem l4Phi_store {w : World} {g1 g2 : Nat} {x y kk m o : Int} {X : Nat} {W W' : World} {γ : Nat → Nat} {cs : Array Value} (hX : w.heap.size ≤ X) (hk : W.grownBy W' (some X)) (hb : Blk W (γ 0) 79 cs) (hn : Blk W' (γ 0) 79 #[.int .i64 x, .int .i64 y, .int .i64 kk, .int .i64 m, .int .i64 o, .slice none 0 0]) (hg : γ 0 = X) (j : Nat) (v : Value) (h15 : j ≠ 15) (hv : l4Phi w g1 g2 x y kk m o j v W γ) : l4Phi w g1 g2 x y kk m o j v W' γ := by
  unfold l4Phi at hv ⊢
  split at hv <;> first | exact hv | trivial | exact absurd rfl h15 | (obtain ⟨h1, h2, _⟩ := hv; exact ⟨h1, h2, _, _, _, _, _, _, hn⟩)

def mkLnk (y : LnkD) (A : Option Addr) (c : Nat) (tl : List Trp) : Lnk := ⟨y.a, y.b, y.kind, y.most, y.ohm, A, tl.length, c, tl⟩
/-- The link that is being read. -/
structure LkL (w : World) (X : Nat) (y : LnkD) (A : Option Addr) (c : Nat) (tl : List Trp) (W : World) : Prop where
  near : Below w.heap.size w W
  box : Blk W X 79 (lCells (mkLnk y A c tl))
  trp : TripOwn W w.heap.size (mkLnk y A c tl)
theorem LkL.next {w : World} {X : Nat} {y : LnkD} {A : Option Addr} {c : Nat} {tl : List Trp} {W W' : World} (h : LkL w X y A c tl W) (hb : Below W.heap.size W W') : LkL w X y A c tl W' :=
  ⟨h.near.trans (hb.mono h.near.size), Blk.below h.box hb (Blk.lt h.box), h.trp.next hb⟩
structure L9R (w : World) (gn N : Nat) (t : Trp) (W : World) : Prop where
  near : Below w.heap.size w W
  size : N ≤ W.heap.size
  nums : IntB W gn [t.amps, t.millis]
theorem L9R.next {w : World} {gn N : Nat} {t : Trp} {W W' : World} (h : L9R w gn N t W) (hb : Below W.heap.size W W') : L9R w gn N t W' :=
  ⟨h.near.trans (hb.mono h.near.size), Nat.le_trans h.size hb.size, Blk.below h.nums hb (Blk.lt h.nums)⟩
theorem L9R.row {w : World} {gn N : Nat} {t : Trp} {y : Lnk} {W W' : World} (h : L9R w gn N t W) (hr : TripOwn W w.heap.size y) (hk : W.grownBy W' (Value.ownBlock (.slice y.tA y.tn y.tc))) : L9R w gn N t W' :=
  ⟨below_row h.near hr hk, Nat.le_trans h.size hk.size, blk_row h.nums hr hk (by decide)⟩
theorem L9R.store {w : World} {gn N X : Nat} {t : Trp} {W W' : World} {cs : Array Value} (h : L9R w gn N t W) (hX : w.heap.size ≤ X) (hk : W.grownBy W' (some X)) (hb : Blk W X 79 cs) : L9R w gn N t W' :=
  ⟨h.near.grown hk h.near.size (fun k e => by cases e; exact hX), Nat.le_trans h.size hk.size, Blk.kept h.nums hk (fun e => blk_ne h.nums hb (by decide) (Option.some.inj e))⟩
def l9Phi (w : World) (X gn N : Nat) (y : LnkD) (A : Option Addr) (c : Nat) (tl : List Trp) (t : Trp) : Nat → Value → World → (Nat → Nat) → Prop
  | 0, v, _, _ => v = .pointer (some ⟨X, 5, none⟩)
  | 1, v, _, _ => v = .slice A tl.length c
  | 2, v, _, _ => v = .slice (some ⟨gn, 0, none⟩) 2 2
  | 3, v, _, _ => v = .pointer (some ⟨gn, 0, none⟩)
  | 4, v, _, _ => v = .int .i64 t.amps
  | 5, v, _, _ => v = .slice (some ⟨gn, 0, none⟩) 2 2
  | 6, v, _, _ => v = .pointer (some ⟨gn, 1, none⟩)
  | 7, v, _, _ => v = .int .i64 t.millis
  | 8, v, _, _ => v = .agg #[.int .i64 t.amps, .int .i64 t.millis]
  | 9, v, W, _ => ∃ B, v = .slice (some ⟨B, 0, none⟩) 1 1 ∧ N ≤ B ∧ Blk W B 112 #[.int .i64 t.amps, .int .i64 t.millis]
  | 10, v, W, _ => ∃ A c, v = .slice A (tl.length + 1) c ∧ TripOwn W w.heap.size (mkLnk y A c (tl ++ [t]))
  | 11, v, _, _ => v = .pointer (some ⟨X, 5, none⟩)
  | 12, _, W, _ => ∃ A c, Blk W X 79 (lCells (mkLnk y A c (tl ++ [t]))) ∧ TripOwn W w.heap.size (mkLnk y A c (tl ++ [t]))
  | _, _, _, _ => True
def l9Psi (w : World) (X : Nat) (y : LnkD) (A : Option Addr) (c : Nat) (tl : List Trp) : Nat → World → (Nat → Nat) → Prop
  | 1, W, _ => Blk W X 79 (lCells (mkLnk y A c tl))
  | 10, W, _ => TripOwn W w.heap.size (mkLnk y A c tl)
  | 12, W, _ => Blk W X 79 (lCells (mkLnk y A c tl))
  | _, _, _ => True
theorem l9Phi_kept {w : World} {X gn N : Nat} {y : LnkD} {A : Option Addr} {c : Nat} {tl : List Trp} {t : Trp} {W W' : World} {γ γ' : Nat → Nat} (hb : Below W.heap.size W W') (j : Nat) (v : Value) (hv : l9Phi w X gn N y A c tl t j v W γ) : l9Phi w X gn N y A c tl t j v W' γ' := by
  unfold l9Phi at hv ⊢
  split at hv <;> first | exact hv | trivial | (obtain ⟨B, h1, h2, h3⟩ := hv; exact ⟨B, h1, h2, h3.below hb h3.lt⟩) | (obtain ⟨A, c, h1, h2⟩ := hv; first | exact ⟨A, c, h1, TripOwn.next h2 hb⟩ | exact ⟨A, c, Blk.below h1 hb (Blk.lt h1), TripOwn.next h2 hb⟩)
theorem l9Psi_kept {w : World} {X : Nat} {y : LnkD} {A : Option Addr} {c : Nat} {tl : List Trp} {W W' : World} {γ γ' : Nat → Nat} (hb : Below W.heap.size W W') (j : Nat) (hv : l9Psi w X y A c tl j W γ) : l9Psi w X y A c tl j W' γ' := by
  unfold l9Psi at hv ⊢
  split at hv <;> first | exact Blk.below hv hb (Blk.lt hv) | exact TripOwn.next hv hb | trivial
theorem l9Phi_row {w : World} {X gn N : Nat} {y : LnkD} {A : Option Addr} {c : Nat} {tl : List Trp} {t : Trp} {W W' : World} {γ γ' : Nat → Nat} (hr : TripOwn W w.heap.size (mkLnk y A c tl)) (hk : W.grownBy W' (Value.ownBlock (.slice A tl.length c))) (hlt : ∀ k, Value.ownBlock (.slice A tl.length c) = some k → k < N) (j : Nat) (v : Value) (hj : j ≠ 12) (hj2 : j ≠ 10) (hv : l9Phi w X gn N y A c tl t j v W γ) : l9Phi w X gn N y A c tl t j v W' γ' := by
  unfold l9Phi at hv ⊢
  split at hv <;> first | exact absurd rfl hj | exact absurd rfl hj2 | exact hv | trivial | (obtain ⟨B, h1, h2, h3⟩ := hv; exact ⟨B, h1, h2, Blk.kept h3 hk (fun e => by have := hlt B e.symm; omega)⟩)
theorem l9Psi_row {w : World} {X : Nat} {y : LnkD} {A : Option Addr} {c : Nat} {tl : List Trp} {W W' : World} {γ γ' : Nat → Nat} (hr : TripOwn W w.heap.size (mkLnk y A c tl)) (hk : W.grownBy W' (Value.ownBlock (.slice A tl.length c))) (j : Nat) (hj : j ≠ 10) (hv : l9Psi w X y A c tl j W γ) : l9Psi w X y A c tl j W' γ' := by
  unfold l9Psi at hv ⊢
  split at hv <;> first | exact absurd rfl hj | exact blk_row hv hr hk (by decide) | trivial
theorem l9Phi_store {w : World} {X gn N : Nat} {y : LnkD} {A : Option Addr} {c : Nat} {tl : List Trp} {t : Trp} {W W' : World} {γ γ' : Nat → Nat} {cs : Array Value} (hk : W.grownBy W' (some X)) (hb : Blk W X 79 cs) (j : Nat) (v : Value) (hj : j ≠ 12) (hv : l9Phi w X gn N y A c tl t j v W γ) : l9Phi w X gn N y A c tl t j v W' γ' := by
  unfold l9Phi at hv ⊢
  split at hv <;> first | exact absurd rfl hj | exact hv | trivial | (obtain ⟨B, h1, h2, h3⟩ := hv; exact ⟨B, h1, h2, Blk.kept h3 hk (fun e => blk_ne h3 hb (by decide) (Option.some.inj e))⟩) | (obtain ⟨A, c, h1, h2⟩ := hv; exact ⟨A, c, h1, TripOwn.kept h2 hk hb (by decide)⟩)
theorem l9Psi_last {w : World} {X : Nat} {y : LnkD} {A : Option Addr} {c : Nat} {tl : List Trp} {W W' : World} {γ γ' : Nat → Nat} (j : Nat) (hj : j ≠ 12) (hn : ¬ (j = 1 ∨ j = 10)) (hv : l9Psi w X y A c tl j W γ) : l9Psi w X y A c tl j W' γ' := by
  unfold l9Psi
  split <;> first | exact absurd rfl hj | exact absurd (.inl rfl) hn | exact absurd (.inr rfl) hn | trivial

structure L11R (w0 : World) (g X ms ml : Nat) (q : Plt) (x : Lnk) (i N : Nat) (W : World) : Prop where
  low : Below w0.heap.size w0 W
  size : N ≤ W.heap.size
  src : KindMap srcWord W ms
  lnk : KindMap lnkWord W ml
  srcs : SrcRow W w0.heap.size q.sA q.sn q.sc q.srcs
  rck : RckRow W w0.heap.size q.rA q.rn q.rc q.rcks
  trips : ∀ y ∈ q.lnks, TripOwn W w0.heap.size y
  trip : TripOwn W w0.heap.size x
  box : Blk W X 79 (lCells x)
  gone : Gone W g i
theorem L11R.next {w0 : World} {g X ms ml : Nat} {q : Plt} {x : Lnk} {i N : Nat} {W W' : World} (h : L11R w0 g X ms ml q x i N W) (hb : Below W.heap.size W W') : L11R w0 g X ms ml q x i N W' :=
  ⟨below_after hb (Nat.le_refl _) h.low, Nat.le_trans h.size hb.size, h.src.next hb, h.lnk.next hb, row_next h.srcs hb, row_next h.rck hb, fun y hy => (h.trips y hy).next hb, h.trip.next hb, Blk.below h.box hb (Blk.lt h.box), h.gone.next hb⟩
theorem L11R.row {w0 : World} {g X ms ml : Nat} {q : Plt} {x : Lnk} {i N : Nat} {W W' : World} (h : L11R w0 g X ms ml q x i N W) (hr : W.ownsRow w0.heap.size 79 6 (.slice q.lA q.ln q.lc) q.lnks.length (q.lnks.flatMap Lnk.enc)) (hk : W.grownBy W' (Value.ownBlock (.slice q.lA q.ln q.lc))) (hX : some X ≠ Value.ownBlock (.slice q.lA q.ln q.lc)) : L11R w0 g X ms ml q x i N W' := by
  refine ⟨below_row h.low hr hk, Nat.le_trans h.size hk.size, kind_row h.src hr hk, kind_row h.lnk hr hk, row_other h.srcs hr hk (by decide), row_other h.rck hr hk (by decide), fun y hy => trip_row (h.trips y hy) hr hk (by decide), trip_row h.trip hr hk (by decide), Blk.kept h.box hk hX, ?_⟩
  obtain ⟨c0, c1, c2, c3, c4, c5, c7, h1⟩ := h.gone
  exact ⟨c0, c1, c2, c3, c4, c5, c7, blk_row h1 hr hk (by decide)⟩
theorem L11R.store {w0 : World} {g X ms ml : Nat} {q q' : Plt} {x : Lnk} {i N : Nat} {l : Int} {W W' : World} {cs : Array Value} (h : L11R w0 g X ms ml q x i N W) (hg : w0.heap.size ≤ g) (hk : W.grownBy W' (some g)) (hb : Blk W g 128 cs) (hn : Blk W' g 128 (rCells ms ml q' i l)) : L11R w0 g X ms ml q x i N W' :=
  ⟨h.low.grown hk h.low.size (fun k e => by cases e; exact hg), Nat.le_trans h.size hk.size, h.src.kept hk hb, h.lnk.kept hk hb, row_store h.srcs hk hb (by decide), row_store h.rck hk hb (by decide), fun y hy => (h.trips y hy).kept hk hb (by decide), h.trip.kept hk hb (by decide), Blk.kept h.box hk (fun e => blk_ne h.box hb (by decide) (Option.some.inj e)), ⟨_, _, _, _, _, _, _, hn⟩⟩
def l11Phi (w0 : World) (g N ms ml i : Nat) (l : Int) (q : Plt) (x : Lnk) : Nat → Value → World → (Nat → Nat) → Prop
  | 0, v, _, _ => v = .pointer (some ⟨g, 0, none⟩)
  | 1, v, _, _ => v = .pointer (some ⟨g, 0, none⟩)
  | 2, v, _, _ => v = .pointer (some ⟨g, 0, none⟩)
  | 3, v, _, _ => v = .pointer (some ⟨g, 2, none⟩)
  | 4, v, _, _ => v = .pointer (some ⟨g, 4, none⟩)
  | 5, v, _, _ => v = .slice q.lA q.ln q.lc
  | 6, v, _, _ => v = .agg (lCells x)
  | 7, v, W, _ => ∃ B, v = .slice (some ⟨B, 0, none⟩) 1 1 ∧ N ≤ B ∧ Blk W B 79 (lCells x)
  | 8, v, W, _ => ∃ A c, v = .slice A (q.ln + 1) c ∧ W.ownsRow w0.heap.size 79 6 (.slice A (q.ln + 1) c) (q.lnks ++ [x]).length ((q.lnks ++ [x]).flatMap Lnk.enc)
  | 9, v, _, _ => v = .pointer (some ⟨g, 0, none⟩)
  | 10, v, _, _ => v = .pointer (some ⟨g, 2, none⟩)
  | 11, v, _, _ => v = .pointer (some ⟨g, 4, none⟩)
  | 12, _, W, _ => ∃ A c, Blk W g 128 (rCells ms ml { q with lA := A, ln := q.ln + 1, lc := c, lnks := q.lnks ++ [x] } i l) ∧ W.ownsRow w0.heap.size 79 6 (.slice A (q.ln + 1) c) (q.lnks ++ [x]).length ((q.lnks ++ [x]).flatMap Lnk.enc)
  | _, _, _, _ => True
def l11Psi (w0 : World) (g ms ml i : Nat) (l : Int) (q : Plt) : Nat → World → (Nat → Nat) → Prop
  | 5, W, _ => Blk W g 128 (rCells ms ml q i l)
  | 8, W, _ => W.ownsRow w0.heap.size 79 6 (.slice q.lA q.ln q.lc) q.lnks.length (q.lnks.flatMap Lnk.enc)
  | 12, W, _ => Blk W g 128 (rCells ms ml q i l)
  | _, _, _ => True
theorem l11Phi_kept {w0 : World} {g N ms ml i : Nat} {l : Int} {q : Plt} {x : Lnk} {W W' : World} {γ γ' : Nat → Nat} (hb : Below W.heap.size W W') (j : Nat) (v : Value) (hv : l11Phi w0 g N ms ml i l q x j v W γ) : l11Phi w0 g N ms ml i l q x j v W' γ' := by
  unfold l11Phi at hv ⊢
  split at hv <;> first | exact hv | trivial | (obtain ⟨B, h1, h2, h3⟩ := hv; exact ⟨B, h1, h2, h3.below hb h3.lt⟩) | (obtain ⟨A, c, h1, h2⟩ := hv; first | exact ⟨A, c, h1, row_next h2 hb⟩ | exact ⟨A, c, Blk.below h1 hb (Blk.lt h1), row_next h2 hb⟩)
theorem l11Psi_kept {w0 : World} {g ms ml i : Nat} {l : Int} {q : Plt} {W W' : World} {γ γ' : Nat → Nat} (hb : Below W.heap.size W W') (j : Nat) (hv : l11Psi w0 g ms ml i l q j W γ) : l11Psi w0 g ms ml i l q j W' γ' := by
  unfold l11Psi at hv ⊢
  split at hv <;> first | exact Blk.below hv hb (Blk.lt hv) | exact row_next hv hb | trivial
theorem l11Phi_row {w0 : World} {g N ms ml i : Nat} {l : Int} {q : Plt} {x : Lnk} {W W' : World} {γ γ' : Nat → Nat} (hr : W.ownsRow w0.heap.size 79 6 (.slice q.lA q.ln q.lc) q.lnks.length (q.lnks.flatMap Lnk.enc)) (hk : W.grownBy W' (Value.ownBlock (.slice q.lA q.ln q.lc))) (hlt : ∀ k, Value.ownBlock (.slice q.lA q.ln q.lc) = some k → k < N) (j : Nat) (v : Value) (hj : j ≠ 12) (hj2 : j ≠ 8) (hv : l11Phi w0 g N ms ml i l q x j v W γ) : l11Phi w0 g N ms ml i l q x j v W' γ' := by
  unfold l11Phi at hv ⊢
  split at hv <;> first | exact absurd rfl hj | exact absurd rfl hj2 | exact hv | trivial | (obtain ⟨B, h1, h2, h3⟩ := hv; exact ⟨B, h1, h2, Blk.kept h3 hk (fun e => by have := hlt B e.symm; omega)⟩)
theorem l11Psi_row {w0 : World} {g ms ml i : Nat} {l : Int} {q : Plt} {W W' : World} {γ γ' : Nat → Nat} (hr : W.ownsRow w0.heap.size 79 6 (.slice q.lA q.ln q.lc) q.lnks.length (q.lnks.flatMap Lnk.enc)) (hk : W.grownBy W' (Value.ownBlock (.slice q.lA q.ln q.lc))) (j : Nat) (hj : j ≠ 8) (hv : l11Psi w0 g ms ml i l q j W γ) : l11Psi w0 g ms ml i l q j W' γ' := by
  unfold l11Psi at hv ⊢
  split at hv <;> first | exact absurd rfl hj | exact blk_row hv hr hk (by decide) | trivial
theorem l11Phi_store {w0 : World} {g N ms ml i : Nat} {l : Int} {q : Plt} {x : Lnk} {W W' : World} {γ γ' : Nat → Nat} {cs : Array Value} (hk : W.grownBy W' (some g)) (hb : Blk W g 128 cs) (j : Nat) (v : Value) (hj : j ≠ 12) (hv : l11Phi w0 g N ms ml i l q x j v W γ) : l11Phi w0 g N ms ml i l q x j v W' γ' := by
  unfold l11Phi at hv ⊢
  split at hv <;> first | exact absurd rfl hj | exact hv | trivial | (obtain ⟨B, h1, h2, h3⟩ := hv; exact ⟨B, h1, h2, Blk.kept h3 hk (fun e => blk_ne h3 hb (by decide) (Option.some.inj e))⟩) | (obtain ⟨A, c, h1, h2⟩ := hv; exact ⟨A, c, h1, row_store h2 hk hb (by decide)⟩)
theorem l11Psi_last {w0 : World} {g ms ml i : Nat} {l : Int} {q : Plt} {W W' : World} {γ γ' : Nat → Nat} (j : Nat) (hj : j ≠ 12) (hn : ¬ (j = 5 ∨ j = 8)) (hv : l11Psi w0 g ms ml i l q j W γ) : l11Psi w0 g ms ml i l q j W' γ' := by
  unfold l11Psi
  split <;> first | exact absurd rfl hj | exact absurd (.inl rfl) hn | exact absurd (.inr rfl) hn | trivial

def addLnk (s : RdS) (x : LnkD) : RdS := ⟨s.index, s.last, { s.d with lnks := s.d.lnks ++ [x] }⟩
theorem readLnk_len {r : List (List UInt8)} (h : r.length < 5) : readLnk r = none := by
  unfold readLnk
  split
  · simp only [List.length_cons] at h
    omega
  · rfl
theorem list5_more {α : Type} {r : List α} (h : 5 ≤ r.length) : ∃ a b c d e l, r = a :: b :: c :: d :: e :: l := by
  match r, h with
  | a :: b :: c :: d :: e :: l, _ => exact ⟨a, b, c, d, e, l, rfl⟩
theorem nums2 {r : List (List UInt8)} {a : List Int} (hr : r.length = 2) (h : numAll r = some a) : ∃ x y, a = [x, y] := by
  have := numAll_len h
  match a, this.trans hr with
  | [x, y], _ => exact ⟨x, y, rfl⟩
set_option maxRecDepth 100000 in
set_option maxHeartbeats 16000000 in
theorem link_any (w0 : World) (g wb wc n : Nat) (s : RdS) (L : List (List UInt8)) (w : World) (hT : Tabs w0) (hB : Below w0.heap.size w0 w) (hR : RdrAt w w0.heap.size g s) (hW : WordsAt w wb L) (hn : n + 1 = L.length) (hcap : n ≤ wc) (A0 : Option Addr) (hA0 : 0 < n → A0 = some ⟨wb, 1, none⟩) (hw : ∀ x ∈ L, x.length ≤ 200000) (hmany : L.length ≤ 200001) (hlim : s.d.lnks.length ≤ 200000) (hg : w0.heap.size ≤ g) :
    Calls Tryz.prog 140 #[.pointer (some ⟨g, 0, none⟩), .slice A0 n wc] w fun e w' => ReadEnd w0 g s.index e w' ((readLnk (L.drop 1)).map (addLnk s)) := by
  obtain ⟨ms, ml, q, hI, hd⟩ := hR
  have HT := Lib.hid hT
  have HI := Lib.hid hI
  have HW := Lib.hid hW
  have MY := Lib.hid must_yes
  have MN := Lib.hid must_no
  have hdl : (L.drop 1).length = n := by rw [List.length_drop]; omega
  have hgone : Hid (Gone w g s.index) := Lib.hid hI.gone
  have HB0 := Lib.hid hB
  clear hT hW hI
  by_cases h5 : n < 5
  · have hnone : Hid (readLnk (L.drop 1) = none) := Lib.hid (readLnk_len (by omega))
    have hd5 : decide ((5 : Int) ≤ (n : Int)) = false := decide_eq_false (by omega)
    go_enter Tryz.func140, Tryz.ntmps140
    go_wp2_with fail
    refine (MN.out _).mono ?_
    rintro e w1 ⟨rfl, rfl⟩
    go_wp2_with fail
    refine ⟨rfl, ?_⟩
    rw [hnone.out]
    exact ⟨HB0.out, rfl, hgone.out⟩
  · obtain rfl := hA0 (by omega)
    obtain ⟨a0, b0, k0, m0, o0, ts, hL⟩ := list5_more (r := L.drop 1) (by omega)
    have hel : ∀ j x, (L.drop 1)[j]? = some x → L[1 + j]? = some x := fun j x h => by rw [List.getElem?_drop] at h; exact h
    have e2 := hel 2 k0 (by rw [hL]; rfl)
    have c1 : w.cell? ⟨wb, 3, none⟩ = some (.string (ba k0)) := HW.out.cell e2
    have r0 : w.cell? ⟨g, 1, none⟩ = some (.map (some ml)) := HI.out.cells.2.1
    have look := Lib.hid (fun W hK => kind_look (w := W) (m := ml) three_lnk hK (P := Tryz.prog) 125 9 76 Tryz.underlying125 Tryz.underlying9 Tryz.zeroValue76 k0)
    have HK := Lib.hid HI.out.lnk
    have hd5 : decide ((5 : Int) ≤ (n : Int)) = true := decide_eq_true (by omega)
    have i2 : (2 : Int) < (n : Int) := by omega
    clear hel e2
    cases hk : lnkKind k0 with
    | none =>
      have hnone : Hid (readLnk (L.drop 1) = none) := Lib.hid (by rw [hL, readLnk, hk])
      have look2 := Lib.hid (fun W hK => (look.out W hK).trans (show Result.ok (kindVal lnkWord k0) W = .ok (.tuple #[.int .i64 0, .bool false]) W by unfold kindVal; rw [kindIn_lnk, hk]; rfl))
      clear look
      go_enter Tryz.func140, Tryz.ntmps140
      go_wp2_with fail
      refine (MY.out _).mono ?_
      rintro e w1 ⟨rfl, rfl⟩
      go_wp2_with fail
      refine wp_region_free9p 12 (by kernel_rfl) [some 17, some 18, some 19, some 20, some 21, some 22, some 23, some 24, some 16, some 25, some 26, some 4, some 5] [[], [0], [1], [2], [], [4], [5], [3, 6], [7], [8], [8], [9, 0, 1, 2, 3, 4, 5, 6, 7, 8, 9], [10, 11, 0, 1, 2, 3, 4, 5, 6, 7, 8, 9, 10, 11]] [(0, .pointer (some ⟨g, 0, none⟩)), (1, .slice (some ⟨wb, 1, none⟩) n wc)] (fun W _ => W.heap = w.heap ∧ Below w.heap.size w W) (fun i v _ _ => match i with | 0 => v = .pointer (some ⟨g, 0, none⟩) | 1 => v = .pointer (some ⟨g, 0, none⟩) | 2 => v = .pointer (some ⟨g, 1, none⟩) | 3 => v = .map (some ml) | 4 => v = .slice (some ⟨wb, 1, none⟩) n wc | 5 => v = .pointer (some ⟨wb, 3, none⟩) | 6 => v = .string (ba k0) | 7 => v = .tuple #[.int .i64 0, .bool false] | 8 => v = .tuple #[.int .i64 0, .bool false] | 9 => v = .int .i64 0 | 10 => v = .bool false | 11 => v = .int .i64 0 | 12 => v = .bool false | _ => True) (fun _ _ _ => True) (by kernel_rfl) (by kernel_rfl) rfl (by kernel_rfl) ?_ ?_ ⟨fun _ => 0, ⟨rfl, (Below.refl _ _).drew⟩, fun _ _ => trivial⟩ ?_ ?_
      · intro z hz
        simp only [List.mem_cons, List.mem_nil_iff, or_false] at hz
        rcases hz with rfl | rfl
        · exact ⟨by kernel_rfl, rfl⟩
        · exact ⟨by kernel_rfl, rfl⟩
      · intro i v W γ hi h
        rcases i with _ | _ | _ | _ | _ | _ | _ | _ | _ | _ | _ | _ | _ | i
        all_goals first | exact h | (simp at hi)
      · refine ⟨?_, ?_, ?_, ?_, ?_, ?_, ?_, ?_, ?_, ?_, ?_, ?_, ?_, trivial⟩
        all_goals
          intro a W γ ev hcc hff hfx hdf hR hψ hpre
          simp only [List.mem_cons, List.mem_nil_iff, or_false, forall_eq, forall_eq_or_imp] at hfx
          obtain ⟨f0, f1⟩ := hfx
          have r1 : W.cell? ⟨g, 1, none⟩ = some (.map (some ml)) := by unfold World.cell?; rw [hR.1]; exact r0
          have r2 : W.cell? ⟨wb, 3, none⟩ = some (.string (ba k0)) := by unfold World.cell?; rw [hR.1]; exact c1
          have hl := look2.out W (by unfold KindMap; rw [hR.1]; exact HK.out)
          have HR := Lib.hid hR
          have HD := Lib.hid hdf
          clear hR hdf
          refine ⟨fun _ K hK => ?_, trivial⟩
        · clear hpre hψ
          go_simp
          exact hK _ _ γ HR.out (fun _ _ _ _ h => h) (fun _ _ _ h => h) rfl
        · have q1 : ev (.tmp 17) = _ := hpre 0 (by decide)
          clear hpre hψ
          go_simp
          exact hK _ _ γ HR.out (fun _ _ _ _ h => h) (fun _ _ _ h => h) rfl
        · have q1 : ev (.tmp 18) = _ := hpre 1 (by decide)
          clear hpre hψ
          go_simp
          exact hK _ _ γ HR.out (fun _ _ _ _ h => h) (fun _ _ _ h => h) rfl
        · have q1 : ev (.tmp 19) = _ := hpre 2 (by decide)
          clear hpre hψ
          go_simp
          exact hK _ _ γ HR.out (fun _ _ _ _ h => h) (fun _ _ _ h => h) rfl
        · clear hpre hψ
          go_simp
          exact hK _ _ γ HR.out (fun _ _ _ _ h => h) (fun _ _ _ h => h) rfl
        · have q1 : ev (.tmp 21) = _ := hpre 4 (by decide)
          clear hpre hψ
          go_simp
          exact hK _ _ γ HR.out (fun _ _ _ _ h => h) (fun _ _ _ h => h) rfl
        · have q1 : ev (.tmp 22) = _ := hpre 5 (by decide)
          clear hpre hψ
          go_simp
          exact hK _ _ γ HR.out (fun _ _ _ _ h => h) (fun _ _ _ h => h) rfl
        · have q1 : ev (.tmp 20) = _ := hpre 3 (by decide)
          have q2 : ev (.tmp 23) = _ := hpre 6 (by decide)
          clear hpre hψ
          go_simp
          exact hK _ _ γ HR.out (fun _ _ _ _ h => h) (fun _ _ _ h => h) rfl
        · have q1 : ev (.tmp 24) = _ := hpre 7 (by decide)
          clear hpre hψ
          go_simp
          exact hK _ _ γ HR.out (fun _ _ _ _ h => h) (fun _ _ _ h => h) rfl
        · have q1 : ev (.tmp 16) = _ := hpre 8 (by decide)
          clear hpre hψ
          go_simp
          exact hK _ _ γ HR.out (fun _ _ _ _ h => h) (fun _ _ _ h => h) rfl
        · have q1 : ev (.tmp 16) = _ := hpre 8 (by decide)
          clear hpre hψ
          go_simp
          exact hK _ _ γ HR.out (fun _ _ _ _ h => h) (fun _ _ _ h => h) rfl
        · have q1 : ev (.tmp 25) = _ := hpre 9 (by decide)
          clear hpre hψ
          go_simp
          exact hK _ _ γ HR.out (fun _ _ _ _ h => h) (fun _ _ _ h => h) rfl
        · have q1 : ev (.tmp 26) = _ := hpre 10 (by decide)
          clear hpre hψ
          go_simp
          exact hK _ _ γ HR.out (fun _ _ _ _ h => h) (fun _ _ _ h => h) rfl
      intro vs w' γ hvl hR hφ
      have z0 := hφ 0 (by decide)
      have z1 := hφ 1 (by decide)
      have z2 := hφ 2 (by decide)
      have z3 := hφ 3 (by decide)
      have z4 := hφ 4 (by decide)
      have z5 := hφ 5 (by decide)
      have z6 := hφ 6 (by decide)
      have z7 := hφ 7 (by decide)
      have z8 := hφ 8 (by decide)
      have z9 := hφ 9 (by decide)
      have z10 := hφ 10 (by decide)
      have z11 := hφ 11 (by decide)
      have z12 := hφ 12 (by decide)
      clear hφ
      match vs, hvl with
      | [y0, y1, y2, y3, y4, y5, y6, y7, y8, y9, y10, y11, y12], _ =>
      simp only [List.getD_cons_zero, List.getD_cons_succ] at z0 z1 z2 z3 z4 z5 z6 z7 z8 z9 z10 z11 z12
      subst z0 z1 z2 z3 z4 z5 z6 z7 z8 z9 z10 z11 z12
      simp [putAll]
      go_wp2_with fail
      refine (MN.out _).mono ?_
      rintro e w1 ⟨rfl, rfl⟩
      go_wp2_with fail
      refine ⟨rfl, ?_⟩
      rw [hnone.out]
      exact ⟨below_after hR.2 (Nat.le_refl _) HB0.out, rfl, hgone.out.next hR.2⟩
    | some kk =>
      have look2 := Lib.hid (fun W hK => (look.out W hK).trans (show Result.ok (kindVal lnkWord k0) W = .ok (.tuple #[.int .i64 kk, .bool true]) W by unfold kindVal; rw [kindIn_lnk, hk]; rfl))
      clear look
      have hL4 : L.drop 4 = m0 :: o0 :: ts := by
        have h := congrArg (List.drop 3) hL
        rw [List.drop_drop] at h
        exact h
      have HRD1 : Hid (∀ W, WordsAt W wb L → Rd W W.heap.size 1 encS (some ⟨wb, 1, none⟩) 2 [a0, b0]) := Lib.hid (fun W h => by
        have h1 := h.rd 1 2 (by omega)
        rw [hL] at h1
        exact h1)
      have HRD2 : Hid (∀ W, WordsAt W wb L → Rd W W.heap.size 1 encS (some ⟨wb, 4, none⟩) 2 [m0, o0]) := Lib.hid (fun W h => by
        have h1 := h.rd 4 2 (by omega)
        rw [hL4] at h1
        exact h1)
      have hm1 : ∀ x ∈ [a0, b0], x.length ≤ 200000 := fun x hx => hw x (List.mem_of_mem_drop (i := 1) (by rw [hL]; simp only [List.mem_cons, List.mem_nil_iff, or_false] at hx ⊢; rcases hx with h | h; exact .inl h; exact .inr (.inl h)))
      have hm2 : ∀ x ∈ [m0, o0], x.length ≤ 200000 := fun x hx => hw x (List.mem_of_mem_drop (i := 4) (by rw [hL4]; simp only [List.mem_cons, List.mem_nil_iff, or_false] at hx ⊢; rcases hx with h | h; exact .inl h; exact .inr (.inl h)))
      have hm3 : ∀ x ∈ ts, x.length ≤ 200000 := fun x hx => hw x (List.mem_of_mem_drop (i := 4) (by rw [hL4]; exact List.mem_cons_of_mem _ (List.mem_cons_of_mem _ hx)))
      have NS1 := Lib.hid (fun c W hr hT => numbers_any (some ⟨wb, 1, none⟩) 2 c 2 [a0, b0] W hr (by omega) hm1 hT)
      have NS2 := Lib.hid (fun c W hr hT => numbers_any (some ⟨wb, 4, none⟩) 2 c 2 [m0, o0] W hr (by omega) hm2 hT)
      clear hm1 hm2 hw
      have SR : Hid (∀ W5, Below w.heap.size w W5 → (numAll [a0, b0] = none ∨ numAll [m0, o0] = none) → ReadEnd w0 g s.index formP W5 ((readLnk (L.drop 1)).map (addLnk s))) := Lib.hid (fun W5 h1 h3 => by
        have h4 : readLnk (L.drop 1) = none := by
          rw [hL, readLnk, hk]
          rcases h3 with h3 | h3
          · rw [h3]
          · rw [h3]
            cases numAll [a0, b0] with
            | none => rfl
            | some l => match l with
              | [] => rfl
              | [_] => rfl
              | [_, _] => rfl
              | _ :: _ :: _ :: _ => rfl
        rw [h4]
        exact ⟨below_after h1 (Nat.le_refl _) HB0.out, rfl, hgone.out.next h1⟩)
      have j2 : (2 : Int) ≤ (wc : Int) := by omega
      have j3 : (3 : Int) ≤ (5 : Int) := by omega
      have j5 : (5 : Int) ≤ (wc : Int) := by omega
      have j7 : ¬ wc = 3 := by omega
      go_enter Tryz.func140, Tryz.ntmps140
      go_wp2_with fail
      refine (MY.out _).mono ?_
      rintro e w1 ⟨rfl, rfl⟩
      go_wp2_with fail
      refine wp_region_free9p 12 (by kernel_rfl) [some 17, some 18, some 19, some 20, some 21, some 22, some 23, some 24, some 16, some 25, some 26, some 4, some 5] [[], [0], [1], [2], [], [4], [5], [3, 6], [7], [8], [8], [9, 0, 1, 2, 3, 4, 5, 6, 7, 8, 9], [10, 11, 0, 1, 2, 3, 4, 5, 6, 7, 8, 9, 10, 11]] [(0, .pointer (some ⟨g, 0, none⟩)), (1, .slice (some ⟨wb, 1, none⟩) n wc)] (fun W _ => W.heap = w.heap ∧ Below w.heap.size w W) (fun i v _ _ => match i with | 0 => v = .pointer (some ⟨g, 0, none⟩) | 1 => v = .pointer (some ⟨g, 0, none⟩) | 2 => v = .pointer (some ⟨g, 1, none⟩) | 3 => v = .map (some ml) | 4 => v = .slice (some ⟨wb, 1, none⟩) n wc | 5 => v = .pointer (some ⟨wb, 3, none⟩) | 6 => v = .string (ba k0) | 7 => v = .tuple #[.int .i64 kk, .bool true] | 8 => v = .tuple #[.int .i64 kk, .bool true] | 9 => v = .int .i64 kk | 10 => v = .bool true | 11 => v = .int .i64 kk | 12 => v = .bool true | _ => True) (fun _ _ _ => True) (by kernel_rfl) (by kernel_rfl) rfl (by kernel_rfl) ?_ ?_ ⟨fun _ => 0, ⟨rfl, (Below.refl _ _).drew⟩, fun _ _ => trivial⟩ ?_ ?_
      · intro z hz
        simp only [List.mem_cons, List.mem_nil_iff, or_false] at hz
        rcases hz with rfl | rfl
        · exact ⟨by kernel_rfl, rfl⟩
        · exact ⟨by kernel_rfl, rfl⟩
      · intro i v W γ hi h
        rcases i with _ | _ | _ | _ | _ | _ | _ | _ | _ | _ | _ | _ | _ | i
        all_goals first | exact h | (simp at hi)
      · refine ⟨?_, ?_, ?_, ?_, ?_, ?_, ?_, ?_, ?_, ?_, ?_, ?_, ?_, trivial⟩
        all_goals
          intro a W γ ev hcc hff hfx hdf hR hψ hpre
          simp only [List.mem_cons, List.mem_nil_iff, or_false, forall_eq, forall_eq_or_imp] at hfx
          obtain ⟨f0, f1⟩ := hfx
          have r1 : W.cell? ⟨g, 1, none⟩ = some (.map (some ml)) := by unfold World.cell?; rw [hR.1]; exact r0
          have r2 : W.cell? ⟨wb, 3, none⟩ = some (.string (ba k0)) := by unfold World.cell?; rw [hR.1]; exact c1
          have hl := look2.out W (by unfold KindMap; rw [hR.1]; exact HK.out)
          have HR := Lib.hid hR
          have HD := Lib.hid hdf
          clear hR hdf
          refine ⟨fun _ K hK => ?_, trivial⟩
        · clear hpre hψ
          go_simp
          exact hK _ _ γ HR.out (fun _ _ _ _ h => h) (fun _ _ _ h => h) rfl
        · have q1 : ev (.tmp 17) = _ := hpre 0 (by decide)
          clear hpre hψ
          go_simp
          exact hK _ _ γ HR.out (fun _ _ _ _ h => h) (fun _ _ _ h => h) rfl
        · have q1 : ev (.tmp 18) = _ := hpre 1 (by decide)
          clear hpre hψ
          go_simp
          exact hK _ _ γ HR.out (fun _ _ _ _ h => h) (fun _ _ _ h => h) rfl
        · have q1 : ev (.tmp 19) = _ := hpre 2 (by decide)
          clear hpre hψ
          go_simp
          exact hK _ _ γ HR.out (fun _ _ _ _ h => h) (fun _ _ _ h => h) rfl
        · clear hpre hψ
          go_simp
          exact hK _ _ γ HR.out (fun _ _ _ _ h => h) (fun _ _ _ h => h) rfl
        · have q1 : ev (.tmp 21) = _ := hpre 4 (by decide)
          clear hpre hψ
          go_simp
          exact hK _ _ γ HR.out (fun _ _ _ _ h => h) (fun _ _ _ h => h) rfl
        · have q1 : ev (.tmp 22) = _ := hpre 5 (by decide)
          clear hpre hψ
          go_simp
          exact hK _ _ γ HR.out (fun _ _ _ _ h => h) (fun _ _ _ h => h) rfl
        · have q1 : ev (.tmp 20) = _ := hpre 3 (by decide)
          have q2 : ev (.tmp 23) = _ := hpre 6 (by decide)
          clear hpre hψ
          go_simp
          exact hK _ _ γ HR.out (fun _ _ _ _ h => h) (fun _ _ _ h => h) rfl
        · have q1 : ev (.tmp 24) = _ := hpre 7 (by decide)
          clear hpre hψ
          go_simp
          exact hK _ _ γ HR.out (fun _ _ _ _ h => h) (fun _ _ _ h => h) rfl
        · have q1 : ev (.tmp 16) = _ := hpre 8 (by decide)
          clear hpre hψ
          go_simp
          exact hK _ _ γ HR.out (fun _ _ _ _ h => h) (fun _ _ _ h => h) rfl
        · have q1 : ev (.tmp 16) = _ := hpre 8 (by decide)
          clear hpre hψ
          go_simp
          exact hK _ _ γ HR.out (fun _ _ _ _ h => h) (fun _ _ _ h => h) rfl
        · have q1 : ev (.tmp 25) = _ := hpre 9 (by decide)
          clear hpre hψ
          go_simp
          exact hK _ _ γ HR.out (fun _ _ _ _ h => h) (fun _ _ _ h => h) rfl
        · have q1 : ev (.tmp 26) = _ := hpre 10 (by decide)
          clear hpre hψ
          go_simp
          exact hK _ _ γ HR.out (fun _ _ _ _ h => h) (fun _ _ _ h => h) rfl
      intro vs w' γ hvl hR hφ
      have z0 := hφ 0 (by decide)
      have z1 := hφ 1 (by decide)
      have z2 := hφ 2 (by decide)
      have z3 := hφ 3 (by decide)
      have z4 := hφ 4 (by decide)
      have z5 := hφ 5 (by decide)
      have z6 := hφ 6 (by decide)
      have z7 := hφ 7 (by decide)
      have z8 := hφ 8 (by decide)
      have z9 := hφ 9 (by decide)
      have z10 := hφ 10 (by decide)
      have z11 := hφ 11 (by decide)
      have z12 := hφ 12 (by decide)
      clear hφ
      match vs, hvl with
      | [y0, y1, y2, y3, y4, y5, y6, y7, y8, y9, y10, y11, y12], _ =>
      simp only [List.getD_cons_zero, List.getD_cons_succ] at z0 z1 z2 z3 z4 z5 z6 z7 z8 z9 z10 z11 z12
      subst z0 z1 z2 z3 z4 z5 z6 z7 z8 z9 z10 z11 z12
      simp [putAll]
      have HR1 := Lib.hid hR
      clear hR
      go_wp2_with fail
      refine (MY.out _).mono ?_
      rintro e w2 ⟨rfl, rfl⟩
      go_wp2_with fail
      refine wp_region_free9p 7 (by kernel_rfl) [some 29, some 30, some 31, some 32, some 33, some 34, some 6, some 7] [[], [0], [1], [], [3], [4, 2], [2, 5, 0, 1, 2], [5, 6, 0, 1, 2, 3, 4, 5, 6]] [(1, .slice (some ⟨wb, 1, none⟩) n wc)] (fun W _ => Below w.heap.size w W) (l3Phi wb wc n w.heap.size a0 b0 m0 o0) (fun _ _ _ => True) (by kernel_rfl) (by kernel_rfl) rfl (by kernel_rfl) ?_ ?_ ⟨fun _ => 0, HR1.out.2.drew, fun _ _ => trivial⟩ ?_ ?_
      · intro z hz
        simp only [List.mem_cons, List.mem_nil_iff, or_false] at hz
        subst hz
        all_goals exact ⟨by kernel_rfl, rfl⟩
      · intro i v W γ hi h
        rcases i with _ | _ | _ | _ | _ | _ | _ | _ | i
        all_goals first | exact h | (simp at hi)
      · refine ⟨?_, ?_, ?_, ?_, ?_, ?_, ?_, ?_, trivial⟩
        all_goals
          intro a W γ ev hcc hff hfx hdf hR hψ hpre
          simp only [List.mem_cons, List.mem_nil_iff, or_false, forall_eq, forall_eq_or_imp] at hfx
          have f0 := hfx
          clear hfx
          have HR := Lib.hid hR
          have HD := Lib.hid hdf
          clear hR hdf
          refine ⟨fun _ K hK => ?_, trivial⟩
        · clear hpre hψ
          go_simp
          exact hK _ _ γ HR.out (fun _ _ _ _ h => h) (fun _ _ _ h => h) rfl
        · have q1 : ev (.tmp 29) = _ := hpre 0 (by decide)
          clear hpre hψ
          go_simp
          exact hK _ _ γ HR.out (fun _ _ _ _ h => h) (fun _ _ _ h => h) rfl
        · have q1 : ev (.tmp 30) = _ := hpre 1 (by decide)
          have C := Lib.hid (NS1.out wc W (HRD1.out W (HW.out.below HR.out HW.out.lt)) (HT.out.from_ (below_after HR.out (Nat.le_refl _) HB0.out) (Nat.le_refl _)))
          clear hpre hψ
          go_simp
          refine C.out.mono ?_
          rintro e w5 ⟨hB, hE⟩
          have HB := Lib.hid hB
          cases hna : numAll [a0, b0] with
          | none =>
            rw [numsL, if_pos rfl, hna] at hE
            subst hE
            go_wp2_with fail
            exact ⟨HD.out, SR.out _ (HR.out.trans (HB.out.mono HR.out.size)) (.inl hna)⟩
          | some ns =>
            rw [numsL, if_pos rfl, hna] at hE
            obtain ⟨g1, rfl, hg1, hN⟩ := hE
            exact hK _ w5 γ (HR.out.trans (HB.out.mono HR.out.size)) (fun j u _ _ h => l3Phi_kept HB.out j u h) (fun _ _ _ h => h) ⟨g1, ns, hna, rfl, Nat.le_trans HR.out.size hg1, hN⟩
        · clear hpre hψ
          go_simp
          exact hK _ _ γ HR.out (fun _ _ _ _ h => h) (fun _ _ _ h => h) rfl
        · have q1 : ev (.tmp 32) = _ := hpre 3 (by decide)
          clear hpre hψ
          go_simp
          exact hK _ _ γ HR.out (fun _ _ _ _ h => h) (fun _ _ _ h => h) rfl
        · have q1 : ev (.tmp 33) = _ := hpre 4 (by decide)
          have C := Lib.hid (NS2.out (wc - 3) W (HRD2.out W (HW.out.below HR.out HW.out.lt)) (HT.out.from_ (below_after HR.out (Nat.le_refl _) HB0.out) (Nat.le_refl _)))
          clear hpre hψ
          go_simp
          refine C.out.mono ?_
          rintro e w5 ⟨hB, hE⟩
          have HB := Lib.hid hB
          cases hna : numAll [m0, o0] with
          | none =>
            rw [numsL, if_pos rfl, hna] at hE
            subst hE
            go_wp2_with fail
            exact ⟨HD.out, SR.out _ (HR.out.trans (HB.out.mono HR.out.size)) (.inr hna)⟩
          | some ns =>
            rw [numsL, if_pos rfl, hna] at hE
            obtain ⟨g1, rfl, hg1, hN⟩ := hE
            exact hK _ w5 γ (HR.out.trans (HB.out.mono HR.out.size)) (fun j u _ _ h => l3Phi_kept HB.out j u h) (fun _ _ _ h => h) ⟨g1, ns, hna, rfl, Nat.le_trans HR.out.size hg1, hN⟩
        · obtain ⟨g1, ns, h1, q1, h2, h3⟩ := hpre 2 (by decide)
          replace q1 : ev (.tmp 31) = _ := q1
          have H3 := Lib.hid h3
          clear hpre hψ h3
          go_simp
          exact hK _ _ γ HR.out (fun _ _ _ _ h => h) (fun _ _ _ h => h) ⟨g1, ns, h1, rfl, h2, H3.out⟩
        · obtain ⟨g1, ns, h1, q1, h2, h3⟩ := hpre 5 (by decide)
          replace q1 : ev (.tmp 34) = _ := q1
          have H3 := Lib.hid h3
          clear hpre hψ h3
          go_simp
          exact hK _ _ γ HR.out (fun _ _ _ _ h => h) (fun _ _ _ h => h) ⟨g1, ns, h1, rfl, h2, H3.out⟩
      · intro vs w' γ hvl hR hφ
        obtain ⟨g1, na, h1, q1, h2, h3⟩ := hφ 6 (by decide)
        obtain ⟨g2, nb, h4, q2, h5', h6⟩ := hφ 7 (by decide)
        have HR := Lib.hid hR
        have H3 := Lib.hid h3
        have H6 := Lib.hid h6
        clear hφ hR h3 h6
        obtain ⟨x, y, rfl⟩ := nums2 rfl h1
        obtain ⟨m, o, rfl⟩ := nums2 rfl h4
        have h1' := h1
        have h4' := h4
        clear h1 h4
        match vs, hvl with
        | [y0, y1, y2, y3, y4, y5, y6, y7], _ =>
        simp only [List.getD_cons_zero, List.getD_cons_succ] at q1 q2
        subst q1 q2
        simp [putAll]
        go_wp2_with fail
        refine wp_region_free9p 15 (by kernel_rfl) [some 35, some 36, some 37, some 38, some 39, some 40, some 41, some 42, some 43, some 44, some 45, some 46, some 47, some 48, some 8, none] [[], [0], [1], [], [3], [4], [], [], [7], [8], [], [10], [11], [2, 5, 6, 9, 12], [], [14, 13, 0, 1, 2, 3, 4, 5, 6, 7, 8, 9, 10, 11, 12, 13, 14]] [(4, .int .i64 kk), (6, .slice (some ⟨g1, 0, none⟩) 2 2), (7, .slice (some ⟨g2, 0, none⟩) 2 2)] (fun W _ => L4R w g1 g2 x y m o W) (l4Phi w g1 g2 x y kk m o) (fun _ _ _ => True) (by kernel_rfl) (by kernel_rfl) rfl (by kernel_rfl) ?_ ?_ ⟨fun _ => 0, ⟨HR.out.drew, H3.out, H6.out⟩, fun _ _ => trivial⟩ ?_ ?_
        · intro z hz
          simp only [List.mem_cons, List.mem_nil_iff, or_false] at hz
          rcases hz with rfl | rfl | rfl
          all_goals exact ⟨by kernel_rfl, rfl⟩
        · intro i v W γ hi h
          rcases i with _ | _ | _ | _ | _ | _ | _ | _ | _ | _ | _ | _ | _ | _ | _ | _ | i
          all_goals first | exact h | (simp at hi)
        · refine ⟨?_, ?_, ?_, ?_, ?_, ?_, ?_, ?_, ?_, ?_, ?_, ?_, ?_, ?_, ?_, ?_, trivial⟩
          all_goals
            intro a W γ ev hcc hff hfx hdf hR hψ hpre
            simp only [List.mem_cons, List.mem_nil_iff, or_false, forall_eq, forall_eq_or_imp] at hfx
            obtain ⟨f0, f1, f2⟩ := hfx
            have t0 : W.cell? ⟨g1, 0, none⟩ = some (.int .i64 x) := hR.n1.cell rfl
            have t1 : W.cell? ⟨g1, 1, none⟩ = some (.int .i64 y) := hR.n1.cell rfl
            have t2 : W.cell? ⟨g2, 0, none⟩ = some (.int .i64 m) := hR.n2.cell rfl
            have t3 : W.cell? ⟨g2, 1, none⟩ = some (.int .i64 o) := hR.n2.cell rfl
            have HR := Lib.hid hR
            have HD := Lib.hid hdf
            clear hR hdf
            refine ⟨fun _ K hK => ?_, trivial⟩
          · clear hpre hψ
            go_simp
            exact hK _ _ γ HR.out (fun _ _ _ _ h => h) (fun _ _ _ h => h) rfl
          · have q1 : ev (.tmp 35) = _ := hpre 0 (by decide)
            clear hpre hψ
            go_simp
            exact hK _ _ γ HR.out (fun _ _ _ _ h => h) (fun _ _ _ h => h) rfl
          · have q1 : ev (.tmp 36) = _ := hpre 1 (by decide)
            clear hpre hψ
            go_simp
            exact hK _ _ γ HR.out (fun _ _ _ _ h => h) (fun _ _ _ h => h) rfl
          · clear hpre hψ
            go_simp
            exact hK _ _ γ HR.out (fun _ _ _ _ h => h) (fun _ _ _ h => h) rfl
          · have q1 : ev (.tmp 38) = _ := hpre 3 (by decide)
            clear hpre hψ
            go_simp
            exact hK _ _ γ HR.out (fun _ _ _ _ h => h) (fun _ _ _ h => h) rfl
          · have q1 : ev (.tmp 39) = _ := hpre 4 (by decide)
            clear hpre hψ
            go_simp
            exact hK _ _ γ HR.out (fun _ _ _ _ h => h) (fun _ _ _ h => h) rfl
          · clear hpre hψ
            go_simp
            exact hK _ _ γ HR.out (fun _ _ _ _ h => h) (fun _ _ _ h => h) rfl
          · clear hpre hψ
            go_simp
            exact hK _ _ γ HR.out (fun _ _ _ _ h => h) (fun _ _ _ h => h) rfl
          · have q1 : ev (.tmp 42) = _ := hpre 7 (by decide)
            clear hpre hψ
            go_simp
            exact hK _ _ γ HR.out (fun _ _ _ _ h => h) (fun _ _ _ h => h) rfl
          · have q1 : ev (.tmp 43) = _ := hpre 8 (by decide)
            clear hpre hψ
            go_simp
            exact hK _ _ γ HR.out (fun _ _ _ _ h => h) (fun _ _ _ h => h) rfl
          · clear hpre hψ
            go_simp
            exact hK _ _ γ HR.out (fun _ _ _ _ h => h) (fun _ _ _ h => h) rfl
          · have q1 : ev (.tmp 45) = _ := hpre 10 (by decide)
            clear hpre hψ
            go_simp
            exact hK _ _ γ HR.out (fun _ _ _ _ h => h) (fun _ _ _ h => h) rfl
          · have q1 : ev (.tmp 46) = _ := hpre 11 (by decide)
            clear hpre hψ
            go_simp
            exact hK _ _ γ HR.out (fun _ _ _ _ h => h) (fun _ _ _ h => h) rfl
          · have q1 : ev (.tmp 37) = _ := hpre 2 (by decide)
            have q2 : ev (.tmp 40) = _ := hpre 5 (by decide)
            have q3 : ev (.tmp 41) = _ := hpre 6 (by decide)
            have q4 : ev (.tmp 44) = _ := hpre 9 (by decide)
            have q5 : ev (.tmp 47) = _ := hpre 12 (by decide)
            clear hpre hψ
            go_simp
            exact hK _ _ γ HR.out (fun _ _ _ _ h => h) (fun _ _ _ h => h) rfl
          · clear hpre hψ
            go_simp
            have HB : Below W.heap.size W (W.alloc (.cells #[.int .i64 0, .int .i64 0, .int .i64 0, .int .i64 0, .int .i64 0, .slice none 0 0] 79)) := (Below.refl _ _).alloc (Nat.le_refl _) _
            exact hK _ _ (fun _ => W.heap.size) (HR.out.next HB) (fun j u hj hne h => l4Phi_kept HB j u (fun e => hj (by subst e; decide)) hne h) (fun _ _ _ h => h) ⟨rfl, HR.out.near.size, _, _, _, _, _, _, heap_alloc_new W _⟩
          · obtain ⟨q1, hX, c0, c1, c2, c3, c4, c5, hb⟩ := hpre 14 (by decide)
            replace q1 : ev (.tmp 8) = _ := q1
            have q2 : ev (.tmp 48) = _ := hpre 13 (by decide)
            obtain ⟨S1, S2⟩ := store6 hb (.int .i64 x) (.int .i64 y) (.int .i64 kk) (.int .i64 m) (.int .i64 o) (.slice none 0 0)
            have HS1 := Lib.hid S1
            have HS2 := Lib.hid S2
            have d0 : W.cell? ⟨γ 0, 0, none⟩ = some c0 := hb.cell 0
            have d1 : W.cell? ⟨γ 0, 1, none⟩ = some c1 := hb.cell 1
            have d2 : W.cell? ⟨γ 0, 2, none⟩ = some c2 := hb.cell 2
            have d3 : W.cell? ⟨γ 0, 3, none⟩ = some c3 := hb.cell 3
            have d4 : W.cell? ⟨γ 0, 4, none⟩ = some c4 := hb.cell 4
            have d5 : W.cell? ⟨γ 0, 5, none⟩ = some c5 := hb.cell 5
            have fz := hb.frozen
            have HB := Lib.hid hb
            have HX := Lib.hid hX
            clear hpre hψ hb S1 S2 hX t0 t1 t2 t3
            generalize hgx : γ 0 = X at *
            go_simp
            exact hK undef _ γ (HR.out.store HX.out HS2.out HB.out) (fun j u _ hne h => l4Phi_store HX.out HS2.out (by rw [hgx]; exact HB.out) (by rw [hgx]; exact HS1.out) hgx j u hne h) (fun _ _ _ h => h) (by show Blk _ (γ 0) _ _; rw [hgx]; exact HS1.out)
        · intro vs w' γ hvl hR hφ
          obtain ⟨q1, hX, _⟩ := hφ 14 (by decide)
          have hb : Blk _ (γ 0) 79 _ := hφ 15 (by decide)
          have HR := Lib.hid hR
          clear hφ hR
          obtain ⟨X, hXe⟩ : ∃ X, X = γ 0 := ⟨_, rfl⟩
          rw [← hXe] at q1 hX hb
          have HX := Lib.hid hX
          have HB := Lib.hid hb
          clear hb hX hXe
          match vs, hvl with
          | [y0, y1, y2, y3, y4, y5, y6, y7, y8, y9, y10, y11, y12, y13, y14, y15], _ =>
          simp only [List.getD_cons_zero, List.getD_cons_succ] at q1
          subst q1
          simp [putAll]
          obtain ⟨A5, hA5⟩ : ∃ A : Option Addr, (if wc = 5 then some ⟨wb, 1, none⟩ else some ⟨wb, 6, none⟩) = A := ⟨_, rfl⟩
          obtain ⟨tn, htn⟩ : ∃ k, n - 5 = k := ⟨_, rfl⟩
          have htl : ts.length = tn := by
            have h := congrArg List.length hL
            simp only [List.length_cons] at h
            omega
          have HRD5 : Hid (∀ W, WordsAt W wb L → Rd W W.heap.size 1 encS A5 tn ts) := Lib.hid (fun W h => by
            by_cases h0 : wc = 5
            · have : ts = [] := List.eq_nil_of_length_eq_zero (by omega)
              subst this
              exact ⟨htl, fun h1 => absurd h1 (by simp at htl; omega)⟩
            · rw [if_neg h0] at hA5
              subst hA5
              have hL6 : L.drop 6 = ts := by
                have h := congrArg (List.drop 2) hL4
                rw [List.drop_drop] at h
                exact h
              have h1 := h.rd 6 tn (by omega)
              rw [hL6, List.take_of_length_le (by omega)] at h1
              exact h1)
          have J0 : Hid (LkL w X ⟨x, y, kk, m, o, []⟩ none 0 [] w') := Lib.hid ⟨HR.out.near, HB.out, World.ownsRow_nil _ _ _ _⟩
          go_wp2
          clear hA5
          go_loopw [52] (fun i wr => ∃ (j : Nat) (A : Option Addr) (c : Nat) (tl : List Trp), j ≤ tn ∧ i = .int .i64 j ∧ Hid (tl.length = j) ∧ Hid (LkL w X ⟨x, y, kk, m, o, []⟩ A c tl wr) ∧ Hid (readTrips (ts.take j) = some tl)) (fun i _ => tn - (intOf i).toNat)
          case atStart => exact ⟨0, none, 0, [], by omega, rfl, Lib.hid rfl, J0, Lib.hid rfl⟩
          case round =>
            clear J0
            obtain ⟨j, A, c, tl, hj, rfl, HTJ, HJ, HTL⟩ := hrel
            have hbnd : tl.length ≤ 200000 := by have := HTJ.out; omega
            have hz' := HJ.out.near.size
            by_cases hlt : j < tn
            · obtain ⟨b, off, z, rfl, hb, hz, hcz⟩ := (HRD5.out _ (Blk.below HW.out HJ.out.near HW.out.lt)).at_ hlt
              have c0 := cellS hcz
              have HZ := Lib.hid hz
              have hz2 := hm3 z (List.mem_of_getElem? hz)
              have SP := Lib.hid (fun W hT => split_any 58 z W hT hz2)
              have hm4 : ∀ u ∈ splitC 58 z, u.length ≤ 200000 := fun u hu => Nat.le_trans (splitC_len 58 z u hu) hz2
              have hsnoc : Hid (readTrips (ts.take (j + 1)) = (readTrip z).map fun u => tl ++ [u]) := Lib.hid (by
                rw [List.take_add_one, hz]
                show readTrips (ts.take j ++ [z]) = _
                rw [readTrips_snoc, HTL.out]
                rfl)
              have hbad : Hid (readTrip z = none → readTrips ts = none) := Lib.hid (fun h => readTrips_none hz h)
              have hk0 : (0 : Int) ≤ (j : Int) := by omega
              have hkn : (j : Int) < (tn : Int) := by omega
              clear hz hcz
              go_wp2_with fail
              refine (SP.out _ (HT.out.from_ (below_after HJ.out.near (Nat.le_refl _) HB0.out) (Nat.le_refl _))).mono ?_
              rintro e w6 ⟨rfl, hB6, hW6⟩
              have HW6 := Lib.hid hW6
              have HN6 := Lib.hid (HJ.out.near.trans (hB6.mono HJ.out.near.size))
              have HJ6 := Lib.hid (HJ.out.next hB6)
              have NS := Lib.hid (fun W hr hT => numbers_any (some ⟨wr.heap.size, 0, none⟩) (splitC 58 z).length (splitC 58 z).length 2 (splitC 58 z) W hr (by omega) hm4 hT)
              clear hW6 hB6 hm4
              go_wp2_with fail
              refine (NS.out _ (by
                have h1 := HW6.out.rd 0 (splitC 58 z).length (by omega)
                rw [List.drop_zero, List.take_length] at h1
                exact h1) (HT.out.from_ (below_after HN6.out (Nat.le_refl _) HB0.out) (Nat.le_refl _))).mono ?_
              rintro e w7 ⟨hB7, hE⟩
              have HN7 := Lib.hid (HN6.out.trans (hB7.mono HN6.out.size))
              have HJ7 := Lib.hid (HJ6.out.next hB7)
              clear hB7
              cases hna : numsL (splitC 58 z).length 2 (splitC 58 z) with
              | none =>
                have hnone : Hid (readLnk (L.drop 1) = none) := Lib.hid (by
                  have h1 : readTrip z = none := by
                    unfold readTrip
                    split
                    · rename_i h2
                      rw [numsL, if_pos h2] at hna
                      rw [hna]
                    · rfl
                  rw [hL, readLnk, hk, h1', h4', hbad.out h1])
                rw [hna] at hE
                subst hE
                go_wp2_with fail
                refine ⟨rfl, ?_⟩
                rw [hnone.out]
                exact ⟨below_after HN7.out (Nat.le_refl _) HB0.out, rfl, hgone.out.next HN7.out⟩
              | some ns =>
                have hl2 : (splitC 58 z).length = 2 := by
                  unfold numsL at hna
                  split at hna
                  · assumption
                  · cases hna
                have hna' : numAll (splitC 58 z) = some ns := by rw [numsL, if_pos hl2] at hna; exact hna
                obtain ⟨ta, tm, rfl⟩ := nums2 hl2 hna'
                have HRT : Hid (readTrip z = some ⟨ta, tm⟩) := Lib.hid (by unfold readTrip; rw [if_pos hl2, hna'])
                rw [hna] at hE
                obtain ⟨gn, rfl, hgn, hN⟩ := hE
                have HN := Lib.hid hN
                clear hN hna hna'
                obtain ⟨t, ht⟩ : ∃ t : Trp, t = ⟨ta, tm⟩ := ⟨_, rfl⟩
                have HIN : Hid (IntB w7 gn [t.amps, t.millis]) := by rw [ht]; exact HN
                rw [← ht] at HRT
                clear ht HN
                obtain ⟨i0, hi1, hi2, hi3, hi4⟩ := info_parts trpInf
                have hi := Lib.hid (And.intro hi1 (And.intro hi2 (And.intro hi3 hi4)))
                have hlt9 : ∀ k, Value.ownBlock (.slice A tl.length c) = some k → k < w7.heap.size := fun k e => (row_blk_lt HJ7.out.trp e).2
                have P0 : Hid (∀ j, l9Psi w X ⟨x, y, kk, m, o, []⟩ A c tl j w7.drew (fun _ => 0)) := Lib.hid (fun j => by
                  unfold l9Psi
                  split
                  · exact HJ7.out.box
                  · exact HJ7.out.trp
                  · exact HJ7.out.box
                  · trivial)
                clear hi1 hi2 hi3 hi4 SP NS
                go_wp2_with fail
                refine wp_region_free9p 12 (by kernel_rfl) [some 59, some 60, some 61, some 62, some 63, some 64, some 65, some 66, some 67, some 68, some 69, some 70, none] [[], [0], [], [2], [3], [], [5], [6], [4, 7], [8], [1, 9], [0, 1, 2, 3, 4, 5, 6, 7, 8, 9, 10], [11, 10, 10, 0, 1, 2, 3, 4, 5, 6, 7, 8, 9, 10]] [(8, .pointer (some ⟨X, 0, none⟩)), (11, .slice (some ⟨gn, 0, none⟩) 2 2)] (fun W _ => L9R w gn w7.heap.size t W) (l9Phi w X gn w7.heap.size ⟨x, y, kk, m, o, []⟩ A c tl t) (l9Psi w X ⟨x, y, kk, m, o, []⟩ A c tl) (by kernel_rfl) (by kernel_rfl) rfl (by kernel_rfl) ?_ ?_ ⟨fun _ => 0, ⟨HN7.out.drew, Nat.le_refl _, HIN.out⟩, fun j _ => P0.out j⟩ ?_ ?_
                · intro z hz
                  simp only [List.mem_cons, List.mem_nil_iff, or_false] at hz
                  rcases hz with rfl | rfl
                  all_goals exact ⟨by kernel_rfl, rfl⟩
                · intro i v W γ hi h
                  rcases i with _ | _ | _ | _ | _ | _ | _ | _ | _ | _ | _ | _ | _ | i
                  all_goals first | exact h | (simp at hi)
                · refine ⟨?_, ?_, ?_, ?_, ?_, ?_, ?_, ?_, ?_, ?_, ?_, ?_, ?_, trivial⟩
                  all_goals
                    intro a W γ ev hcc hff hfx hdf hR hψ hpre
                    simp only [List.mem_cons, List.mem_nil_iff, or_false, forall_eq, forall_eq_or_imp] at hfx
                    obtain ⟨f0, f1⟩ := hfx
                    have t0 : W.cell? ⟨gn, 0, none⟩ = some (.int .i64 t.amps) := hR.nums.cell rfl
                    have t1 : W.cell? ⟨gn, 1, none⟩ = some (.int .i64 t.millis) := hR.nums.cell rfl
                    have HR := Lib.hid hR
                    have HD := Lib.hid hdf
                    clear hR hdf
                    refine ⟨fun _ K hK => ?_, trivial⟩
                  · clear hpre hψ
                    go_simp
                    exact hK _ _ γ HR.out (fun _ _ _ _ h => h) (fun _ _ _ h => h) rfl
                  · have q1 : ev (.tmp 59) = _ := hpre 0 (by decide)
                    have hb : Blk W X 79 (lCells (mkLnk ⟨x, y, kk, m, o, []⟩ A c tl)) := hψ
                    have d5 : W.cell? ⟨X, 5, none⟩ = some (.slice A tl.length c) := hb.cell 5
                    clear hpre hψ hb
                    go_simp
                    exact hK _ _ γ HR.out (fun _ _ _ _ h => h) (fun _ _ _ h => h) rfl
                  · clear hpre hψ
                    go_simp
                    exact hK _ _ γ HR.out (fun _ _ _ _ h => h) (fun _ _ _ h => h) rfl
                  · have q1 : ev (.tmp 61) = _ := hpre 2 (by decide)
                    clear hpre hψ
                    go_simp
                    exact hK _ _ γ HR.out (fun _ _ _ _ h => h) (fun _ _ _ h => h) rfl
                  · have q1 : ev (.tmp 62) = _ := hpre 3 (by decide)
                    clear hpre hψ
                    go_simp
                    exact hK _ _ γ HR.out (fun _ _ _ _ h => h) (fun _ _ _ h => h) rfl
                  · clear hpre hψ
                    go_simp
                    exact hK _ _ γ HR.out (fun _ _ _ _ h => h) (fun _ _ _ h => h) rfl
                  · have q1 : ev (.tmp 64) = _ := hpre 5 (by decide)
                    clear hpre hψ
                    go_simp
                    exact hK _ _ γ HR.out (fun _ _ _ _ h => h) (fun _ _ _ h => h) rfl
                  · have q1 : ev (.tmp 65) = _ := hpre 6 (by decide)
                    clear hpre hψ
                    go_simp
                    exact hK _ _ γ HR.out (fun _ _ _ _ h => h) (fun _ _ _ h => h) rfl
                  · have q1 : ev (.tmp 63) = _ := hpre 4 (by decide)
                    have q2 : ev (.tmp 66) = _ := hpre 7 (by decide)
                    clear hpre hψ
                    go_simp
                    exact hK _ _ γ HR.out (fun _ _ _ _ h => h) (fun _ _ _ h => h) rfl
                  · have q1 : ev (.tmp 67) = _ := hpre 8 (by decide)
                    clear hpre hψ
                    go_simp
                    have HB : Below W.heap.size W (W.alloc (.cells #[.int .i64 t.amps, .int .i64 t.millis] 112)) := (Below.refl _ _).alloc (Nat.le_refl _) _
                    exact hK _ _ γ (HR.out.next HB) (fun j u _ _ h => l9Phi_kept HB j u h) (fun j _ _ h => l9Psi_kept HB j h) ⟨W.heap.size, rfl, HR.out.size, heap_alloc_new W _⟩
                  · have q1 : ev (.tmp 60) = _ := hpre 1 (by decide)
                    obtain ⟨B, q2, hB1, hB2⟩ := hpre 9 (by decide)
                    replace q2 : ev (.tmp 68) = _ := q2
                    have hrow : TripOwn W w.heap.size (mkLnk ⟨x, y, kk, m, o, []⟩ A c tl) := hψ
                    obtain ⟨v', W', hr, h2, h3, _, _⟩ := run_append_own_at (P := Tryz.prog) W w.heap.size 77 77 112 i0 (.agg #[.int .i64 0, .int .i64 0]) 2 16 Tryz.underlying77 hi.out.1 hi.out.2.1 hi.out.2.2.1 hi.out.2.2.2 rfl (by decide) (.slice A tl.length c) tl.length (tl.flatMap Trp.enc) hrow ⟨B, 0, none⟩ 1 1 (Trp.enc t) rfl (fun j u hj => by
                      rw [add0, Blk.cell hB2]
                      simpa [Trp.enc] using hj) (fun u hu => by simp only [Trp.enc, List.mem_cons, List.mem_nil_iff, or_false] at hu; rcases hu with rfl | rfl <;> rfl) (by simp only [maxLen]; omega) (by omega) HR.out.near.size
                    unfold execOp
                    simp only [resolve, invoke, builtin, Sem.run_bind, Sem.run_pure, Result.andThen_ok, List.map_toArray, List.map_cons, List.map_nil, q1, q2, hr]
                    obtain ⟨A', c', e'⟩ := row_slice h2
                    subst e'
                    refine hK _ W' γ (HR.out.row hrow h3) (fun j u hj hne h => l9Phi_row hrow h3 hlt9 j u (fun e => hj (by subst e; decide)) hne h) (fun j hj hnb h => l9Psi_row hrow h3 j hj h) ⟨A', c', rfl, ?_⟩
                    unfold TripOwn mkLnk
                    simp only [List.flatMap_append, List.length_append, List.length_singleton]
                    exact h2
                  · clear hpre hψ
                    go_simp
                    exact hK _ _ γ HR.out (fun _ _ _ _ h => h) (fun _ _ _ h => h) rfl
                  · have q1 : ev (.tmp 70) = _ := hpre 11 (by decide)
                    obtain ⟨A', c', q2, hrow⟩ := hpre 10 (by decide)
                    replace q2 : ev (.tmp 69) = _ := q2
                    have hb : Blk W X 79 (lCells (mkLnk ⟨x, y, kk, m, o, []⟩ A c tl)) := hψ
                    have d5 : W.cell? ⟨X, 5, none⟩ = some (.slice A tl.length c) := hb.cell 5
                    have fz := hb.frozen
                    have hg := only_setCell (World.grownBy.refl W (some X)) (p := ⟨X, 5, none⟩) rfl (.slice A' (tl.length + 1) c')
                    have hb2 : Blk (W.setCell ⟨X, 5, none⟩ (.slice A' (tl.length + 1) c')) X 79 (lCells (mkLnk ⟨x, y, kk, m, o, []⟩ A' c' (tl ++ [t]))) := by
                      have h := hb.set_ 5 (.slice A' (tl.length + 1) c')
                      simpa only [lCells, mkLnk, List.length_append, List.length_singleton, List.setIfInBounds_toArray, List.set_cons_zero, List.set_cons_succ] using h
                    have HG := Lib.hid hg
                    have HB2 := Lib.hid hb2
                    have HRW := Lib.hid hrow
                    have HB := Lib.hid hb
                    clear hpre hψ hg hb2 hrow hb
                    go_simp
                    exact hK undef _ γ (HR.out.store HX.out HG.out HB.out) (fun j u _ hne h => l9Phi_store HG.out HB.out j u hne h) (fun j hj hnb h => l9Psi_last j hj (fun h' => hnb (by rcases h' with rfl | rfl <;> decide)) h) ⟨A', c', HB2.out, HRW.out.kept HG.out HB.out (by decide)⟩
                · intro vs w' γ hvl hR hφ
                  obtain ⟨A', c', hb, hrow⟩ := hφ 12 (by decide)
                  have HR := Lib.hid hR
                  have HBX := Lib.hid hb
                  have HRW := Lib.hid hrow
                  clear hφ hR hb hrow
                  match vs, hvl with
                  | [y0, y1, y2, y3, y4, y5, y6, y7, y8, y9, y10, y11, y12], _ =>
                  simp [putAll]
                  go_wp2
                  go_roundw
                  case rel => exact ⟨j + 1, A', c', tl ++ [t], by omega, by go_num, Lib.hid (by simp [HTJ.out]), Lib.hid ⟨HR.out.near, HBX.out, HRW.out⟩, Lib.hid (by rw [hsnoc.out, HRT.out]; rfl)⟩
                  case measure => simp [intOf]; omega
            · obtain rfl : tn = j := by omega
              have htk : ts.take tn = ts := by rw [← htl]; exact List.take_length
              have hr := HTL.out
              rw [htk] at hr
              have YES : Hid (readLnk (L.drop 1) = some ⟨x, y, kk, m, o, tl⟩) := Lib.hid (by rw [hL, readLnk, hk, h1', h4', hr])
              have HJ11 := Lib.hid HJ.out
              obtain ⟨xx, hxx⟩ : ∃ z, z = mkLnk ⟨x, y, kk, m, o, []⟩ A c tl := ⟨_, rfl⟩
              have hxd : Hid (xx.data = ⟨x, y, kk, m, o, tl⟩) := Lib.hid (by rw [hxx]; rfl)
              have hxl : Hid (xx.trip.length = xx.tn) := Lib.hid (by rw [hxx]; rfl)
              have HBOX : Hid (Blk wr X 79 (lCells xx)) := Lib.hid (by rw [hxx]; exact HJ.out.box)
              have HTRP : Hid (TripOwn wr w0.heap.size xx) := Lib.hid (by rw [hxx]; exact World.ownsRow.mono_base HJ.out.trp HB0.out.size)
              have hln : q.lnks.length = q.ln := HI.out.lens.lnk
              have hlnd : s.d.lnks = q.lnks.map Lnk.data := (congrArg PlD.lnks hd).symm
              have hbd : q.ln ≤ 200000 := by rw [← hln, ← List.length_map (f := Lnk.data), ← hlnd]; exact hlim
              have hXr : some X ≠ Value.ownBlock (.slice q.lA q.ln q.lc) := fun e => by
                have h1 := (row_blk_lt HI.out.own.lnk.1 e.symm).2
                have h2 := HX.out
                omega
              have hlt11 : ∀ k, Value.ownBlock (.slice q.lA q.ln q.lc) = some k → k < wr.heap.size := fun k e => Nat.lt_of_lt_of_le (row_blk_lt HI.out.own.lnk.1 e).2 HJ.out.near.size
              have HGX := Lib.hid hg
              have NR := Lib.hid HJ.out.near.drew
              have R0 : Hid (L11R w0 g X ms ml q xx s.index wr.heap.size wr.drew) := Lib.hid ⟨below_after NR.out (Nat.le_refl _) HB0.out, Nat.le_refl _, HI.out.src.next NR.out, HI.out.lnk.next NR.out, row_next HI.out.own.src NR.out, row_next HI.out.own.rck NR.out, fun z hz => (HI.out.own.lnk.2 z hz).next NR.out, HTRP.out, HBOX.out, hgone.out.next NR.out⟩
              have P0 : Hid (∀ j, l11Psi w0 g ms ml s.index s.last q j wr.drew (fun _ => 0)) := Lib.hid (fun j => by
                unfold l11Psi
                split
                · exact Blk.below HI.out.blk NR.out HI.out.blk.lt
                · exact row_next HI.out.own.lnk.1 NR.out
                · exact Blk.below HI.out.blk NR.out HI.out.blk.lt
                · trivial)
              obtain ⟨i1, hi1, hi2, hi3, hi4⟩ := info_parts lnkInf
              have hj1 := Lib.hid (And.intro hi1 (And.intro hi2 (And.intro hi3 hi4)))
              clear hr htk hi1 hi2 hi3 hi4 hxx
              go_wp2_with fail
              refine wp_region_free9p 12 (by kernel_rfl) [some 72, some 73, some 74, some 75, some 76, some 77, some 78, some 79, some 80, some 81, some 82, some 83, none] [[], [], [1], [2], [3], [4], [], [6], [5, 7], [0, 0, 1, 2, 3, 4, 5, 6, 7, 8], [9, 0, 1, 2, 3, 4, 5, 6, 7, 8], [10, 0, 1, 2, 3, 4, 5, 6, 7, 8], [11, 8, 8, 0, 1, 2, 3, 4, 5, 6, 7, 8]] [(0, .pointer (some ⟨g, 0, none⟩)), (8, .pointer (some ⟨X, 0, none⟩))] (fun W _ => L11R w0 g X ms ml q xx s.index wr.heap.size W) (l11Phi w0 g wr.heap.size ms ml s.index s.last q xx) (l11Psi w0 g ms ml s.index s.last q) (by kernel_rfl) (by kernel_rfl) rfl (by kernel_rfl) ?_ ?_ ⟨fun _ => 0, R0.out, fun j _ => P0.out j⟩ ?_ ?_
              · intro z hz
                simp only [List.mem_cons, List.mem_nil_iff, or_false] at hz
                rcases hz with rfl | rfl
                all_goals exact ⟨by kernel_rfl, rfl⟩
              · intro i v W γ hi h
                rcases i with _ | _ | _ | _ | _ | _ | _ | _ | _ | _ | _ | _ | _ | i
                all_goals first | exact h | (simp at hi)
              · refine ⟨?_, ?_, ?_, ?_, ?_, ?_, ?_, ?_, ?_, ?_, ?_, ?_, ?_, trivial⟩
                all_goals
                  intro a W γ ev hcc hff hfx hdf hR hψ hpre
                  simp only [List.mem_cons, List.mem_nil_iff, or_false, forall_eq, forall_eq_or_imp] at hfx
                  obtain ⟨f0, f1⟩ := hfx
                  have e0 : W.cell? ⟨X, 0, none⟩ = some (.int .i64 xx.a) := hR.box.cell 0
                  have e1 : W.cell? ⟨X, 1, none⟩ = some (.int .i64 xx.b) := hR.box.cell 1
                  have e2 : W.cell? ⟨X, 2, none⟩ = some (.int .i64 xx.kind) := hR.box.cell 2
                  have e3 : W.cell? ⟨X, 3, none⟩ = some (.int .i64 xx.most) := hR.box.cell 3
                  have e4 : W.cell? ⟨X, 4, none⟩ = some (.int .i64 xx.ohm) := hR.box.cell 4
                  have e5 : W.cell? ⟨X, 5, none⟩ = some (.slice xx.tA xx.tn xx.tc) := hR.box.cell 5
                  have HR := Lib.hid hR
                  have HD := Lib.hid hdf
                  clear hR hdf
                  refine ⟨fun _ K hK => ?_, trivial⟩
                · clear hpre hψ
                  go_simp
                  exact hK _ _ γ HR.out (fun _ _ _ _ h => h) (fun _ _ _ h => h) rfl
                · clear hpre hψ
                  go_simp
                  exact hK _ _ γ HR.out (fun _ _ _ _ h => h) (fun _ _ _ h => h) rfl
                · have q1 : ev (.tmp 73) = _ := hpre 1 (by decide)
                  clear hpre hψ
                  go_simp
                  exact hK _ _ γ HR.out (fun _ _ _ _ h => h) (fun _ _ _ h => h) rfl
                · have q1 : ev (.tmp 74) = _ := hpre 2 (by decide)
                  clear hpre hψ
                  go_simp
                  exact hK _ _ γ HR.out (fun _ _ _ _ h => h) (fun _ _ _ h => h) rfl
                · have q1 : ev (.tmp 75) = _ := hpre 3 (by decide)
                  clear hpre hψ
                  go_simp
                  exact hK _ _ γ HR.out (fun _ _ _ _ h => h) (fun _ _ _ h => h) rfl
                · have q1 : ev (.tmp 76) = _ := hpre 4 (by decide)
                  have hb : Blk W g 128 (rCells ms ml q s.index s.last) := hψ
                  have d4 : W.cell? ⟨g, 4, none⟩ = some (.slice q.lA q.ln q.lc) := hb.cell 4
                  clear hpre hψ hb
                  go_simp
                  exact hK _ _ γ HR.out (fun _ _ _ _ h => h) (fun _ _ _ h => h) rfl
                · clear hpre hψ
                  go_simp
                  exact hK _ _ γ HR.out (fun _ _ _ _ h => h) (fun _ _ _ h => h) rfl
                · have q1 : ev (.tmp 78) = .agg #[.int .i64 xx.a, .int .i64 xx.b, .int .i64 xx.kind, .int .i64 xx.most, .int .i64 xx.ohm, .slice xx.tA xx.tn xx.tc] := hpre 6 (by decide)
                  clear hpre hψ
                  go_simp
                  have HB : Below W.heap.size W (W.alloc (.cells #[.int .i64 xx.a, .int .i64 xx.b, .int .i64 xx.kind, .int .i64 xx.most, .int .i64 xx.ohm, .slice xx.tA xx.tn xx.tc] 79)) := (Below.refl _ _).alloc (Nat.le_refl _) _
                  exact hK _ _ γ (HR.out.next HB) (fun j u _ _ h => l11Phi_kept HB j u h) (fun j _ _ h => l11Psi_kept HB j h) ⟨W.heap.size, rfl, HR.out.size, heap_alloc_new W _⟩
                · have q1 : ev (.tmp 77) = _ := hpre 5 (by decide)
                  obtain ⟨B, q2, hB1, hB2⟩ := hpre 7 (by decide)
                  replace q2 : ev (.tmp 79) = _ := q2
                  have hrow : W.ownsRow w0.heap.size 79 6 (.slice q.lA q.ln q.lc) q.lnks.length (q.lnks.flatMap Lnk.enc) := hψ
                  obtain ⟨v', W', hr, h2, h3, _, _⟩ := run_append_own_at (P := Tryz.prog) W w0.heap.size 23 23 79 i1 (.agg #[.int .i64 0, .int .i64 0, .int .i64 0, .int .i64 0, .int .i64 0, .slice none 0 0]) 6 64 Tryz.underlying23 hj1.out.1 hj1.out.2.1 hj1.out.2.2.1 hj1.out.2.2.2 rfl (by decide) (.slice q.lA q.ln q.lc) q.lnks.length (q.lnks.flatMap Lnk.enc) hrow ⟨B, 0, none⟩ 1 1 (Lnk.enc xx) rfl (fun j u hj => by
                    rw [add0, Blk.cell hB2]
                    simpa [Lnk.enc, lCells] using hj) (fun u hu => by simp only [Lnk.enc, List.mem_cons, List.mem_nil_iff, or_false] at hu; rcases hu with rfl | rfl | rfl | rfl | rfl | rfl <;> rfl) (by simp only [maxLen]; omega) (by omega) HR.out.low.size
                  unfold execOp
                  simp only [resolve, invoke, builtin, Sem.run_bind, Sem.run_pure, Result.andThen_ok, List.map_toArray, List.map_cons, List.map_nil, q1, q2, hr]
                  obtain ⟨A', c', e'⟩ := row_slice h2
                  subst e'
                  rw [hln] at h2
                  refine hK _ W' γ (HR.out.row hrow h3 hXr) (fun j u hj hne h => l11Phi_row hrow h3 hlt11 j u (fun e => hj (by subst e; decide)) hne h) (fun j hj hnb h => l11Psi_row hrow h3 j hj h) ⟨A', c', by rw [hln], ?_⟩
                  rw [List.flatMap_append, List.length_append, hln]
                  exact h2
                · have q1 : ev (.tmp 72) = _ := hpre 0 (by decide)
                  clear hpre hψ
                  go_simp
                  exact hK _ _ γ HR.out (fun _ _ _ _ h => h) (fun _ _ _ h => h) rfl
                · have q1 : ev (.tmp 81) = _ := hpre 9 (by decide)
                  clear hpre hψ
                  go_simp
                  exact hK _ _ γ HR.out (fun _ _ _ _ h => h) (fun _ _ _ h => h) rfl
                · have q1 : ev (.tmp 82) = _ := hpre 10 (by decide)
                  clear hpre hψ
                  go_simp
                  exact hK _ _ γ HR.out (fun _ _ _ _ h => h) (fun _ _ _ h => h) rfl
                · have q1 : ev (.tmp 83) = _ := hpre 11 (by decide)
                  obtain ⟨A', c', q2, hrow⟩ := hpre 8 (by decide)
                  replace q2 : ev (.tmp 80) = _ := q2
                  have hb : Blk W g 128 (rCells ms ml q s.index s.last) := hψ
                  have d4 : W.cell? ⟨g, 4, none⟩ = some (.slice q.lA q.ln q.lc) := hb.cell 4
                  have fz := hb.frozen
                  have hg := only_setCell (World.grownBy.refl W (some g)) (p := ⟨g, 4, none⟩) rfl (.slice A' (q.ln + 1) c')
                  have hb2 : Blk (W.setCell ⟨g, 4, none⟩ (.slice A' (q.ln + 1) c')) g 128 (rCells ms ml { q with lA := A', ln := q.ln + 1, lc := c', lnks := q.lnks ++ [xx] } s.index s.last) := by
                    have h := hb.set_ 4 (.slice A' (q.ln + 1) c')
                    simpa only [rCells, List.setIfInBounds_toArray, List.set_cons_zero, List.set_cons_succ] using h
                  have HG := Lib.hid hg
                  have HB2 := Lib.hid hb2
                  have HRW := Lib.hid hrow
                  have HB := Lib.hid hb
                  clear hpre hψ hg hb2 hrow hb
                  go_simp
                  exact hK undef _ γ (HR.out.store HGX.out HG.out HB.out HB2.out) (fun j u _ hne h => l11Phi_store HG.out HB.out j u hne h) (fun j hj hnb h => l11Psi_last j hj (fun h' => hnb (by rcases h' with rfl | rfl <;> decide)) h) ⟨A', c', HB2.out, row_store HRW.out HG.out HB.out (by decide)⟩
              · intro vs w' γ hvl hR hφ
                obtain ⟨A', c', hb, hrow⟩ := hφ 12 (by decide)
                have HR := Lib.hid hR
                have HBX := Lib.hid hb
                have HRW := Lib.hid hrow
                clear hφ hR hb hrow
                match vs, hvl with
                | [y0, y1, y2, y3, y4, y5, y6, y7, y8, y9, y10, y11, y12], _ =>
                simp [putAll]
                go_wp2
                go_end0
                refine ⟨HR.out.low, ?_⟩
                rw [YES.out]
                refine ⟨rfl, ms, ml, _, ⟨HBX.out, HR.out.src, HR.out.lnk, ⟨HR.out.srcs, ⟨HRW.out, fun z hz => ?_⟩, HR.out.rck⟩, ⟨HI.out.lens.src, ?_, HI.out.lens.rck, fun z hz => ?_⟩⟩, ?_⟩
                · rcases List.mem_append.1 hz with h | h
                  · exact HR.out.trips z h
                  · rw [List.mem_singleton] at h
                    rw [h]
                    exact HR.out.trip
                · simp [HI.out.lens.lnk]
                · rcases List.mem_append.1 hz with h | h
                  · exact HI.out.lens.trip z h
                  · rw [List.mem_singleton] at h
                    rw [h]
                    exact hxl.out
                · simp only [addLnk, ← hd, Plt.data, List.map_append, List.map_cons, List.map_nil, hxd.out]
end Go.Proofs.YtcnmfblbfpcghaaGreatDoor
