/- (*plant.reader).line. -/
import Derived.Test.YtcnmfblbfpcghaaGreatDoorRdrL
import Derived.Test.YtcnmfblbfpcghaaGreatDoorCheck4
import Derived.Defers
import Derived.Recover

set_option linter.unusedSimpArgs false
set_option linter.unusedVariables false
namespace Go.Proofs.YtcnmfblbfpcghaaGreatDoor
open Go.RowKit Go.Shelf

structure RckR (w0 : World) (g gn ms ml : Nat) (q : Plt) (x : Rck) (i N : Nat) (W : World) : Prop where
  low : Below w0.heap.size w0 W
  size : N ≤ W.heap.size
  src : KindMap srcWord W ms
  lnk : KindMap lnkWord W ml
  srcs : SrcRow W w0.heap.size q.sA q.sn q.sc q.srcs
  lnks : LnkRow W w0.heap.size q.lA q.ln q.lc q.lnks
  nums : IntB W gn [x.f0, x.f1, x.power, x.paths]
  gone : Gone W g i
theorem RckR.next {w0 : World} {g gn ms ml : Nat} {q : Plt} {x : Rck} {i N : Nat} {W W' : World} (h : RckR w0 g gn ms ml q x i N W) (hb : Below W.heap.size W W') : RckR w0 g gn ms ml q x i N W' :=
  ⟨below_after hb (Nat.le_refl _) h.low, Nat.le_trans h.size hb.size, h.src.next hb, h.lnk.next hb, row_next h.srcs hb, ⟨row_next h.lnks.1 hb, fun y hy => (h.lnks.2 y hy).next hb⟩, Blk.below h.nums hb (Blk.lt h.nums), h.gone.next hb⟩
theorem RckR.row {w0 : World} {g gn ms ml : Nat} {q : Plt} {x : Rck} {i N : Nat} {W W' : World} (h : RckR w0 g gn ms ml q x i N W) (hr : RckRow W w0.heap.size q.rA q.rn q.rc q.rcks) (hk : W.grownBy W' (Value.ownBlock (.slice q.rA q.rn q.rc))) : RckR w0 g gn ms ml q x i N W' := by
  refine ⟨below_row h.low hr hk, Nat.le_trans h.size hk.size, kind_row h.src hr hk, kind_row h.lnk hr hk, row_other h.srcs hr hk (by decide), ⟨row_other h.lnks.1 hr hk (by decide), fun y hy => trip_row (h.lnks.2 y hy) hr hk (by decide)⟩, blk_row h.nums hr hk (by decide), ?_⟩
  obtain ⟨c0, c1, c2, c3, c4, c5, c7, h1⟩ := h.gone
  exact ⟨c0, c1, c2, c3, c4, c5, c7, blk_row h1 hr hk (by decide)⟩
theorem RckR.store {w0 : World} {g gn ms ml : Nat} {q q' : Plt} {x : Rck} {i N : Nat} {l : Int} {W W' : World} {cs : Array Value} (h : RckR w0 g gn ms ml q x i N W) (hg : w0.heap.size ≤ g) (hk : W.grownBy W' (some g)) (hb : Blk W g 128 cs) (hn : Blk W' g 128 (rCells ms ml q' i l)) : RckR w0 g gn ms ml q x i N W' :=
  ⟨h.low.grown hk h.low.size (fun k e => by cases e; exact hg), Nat.le_trans h.size hk.size, h.src.kept hk hb, h.lnk.kept hk hb, row_store h.srcs hk hb (by decide), ⟨row_store h.lnks.1 hk hb (by decide), fun y hy => (h.lnks.2 y hy).kept hk hb (by decide)⟩, Blk.kept h.nums hk (fun e => blk_ne h.nums hb (by decide) (Option.some.inj e)), ⟨_, _, _, _, _, _, _, hn⟩⟩
def rkPhi (w0 : World) (g gn N ms ml i : Nat) (l : Int) (q : Plt) (x : Rck) : Nat → Value → World → (Nat → Nat) → Prop
  | 0, v, _, _ => v = .pointer (some ⟨g, 0, none⟩)
  | 1, v, _, _ => v = .pointer (some ⟨g, 0, none⟩)
  | 2, v, _, _ => v = .pointer (some ⟨g, 0, none⟩)
  | 3, v, _, _ => v = .pointer (some ⟨g, 2, none⟩)
  | 4, v, _, _ => v = .pointer (some ⟨g, 5, none⟩)
  | 5, v, _, _ => v = .slice q.rA q.rn q.rc
  | 6, v, _, _ => v = .slice (some ⟨gn, 0, none⟩) 4 4
  | 7, v, _, _ => v = .pointer (some ⟨gn, 0, none⟩)
  | 8, v, _, _ => v = .int .i64 x.f0
  | 9, v, _, _ => v = .slice (some ⟨gn, 0, none⟩) 4 4
  | 10, v, _, _ => v = .pointer (some ⟨gn, 1, none⟩)
  | 11, v, _, _ => v = .int .i64 x.f1
  | 12, v, _, _ => v = .agg #[.int .i64 x.f0, .int .i64 x.f1]
  | 13, v, _, _ => v = .slice (some ⟨gn, 0, none⟩) 4 4
  | 14, v, _, _ => v = .pointer (some ⟨gn, 2, none⟩)
  | 15, v, _, _ => v = .int .i64 x.power
  | 16, v, _, _ => v = .slice (some ⟨gn, 0, none⟩) 4 4
  | 17, v, _, _ => v = .pointer (some ⟨gn, 3, none⟩)
  | 18, v, _, _ => v = .int .i64 x.paths
  | 19, v, _, _ => v = .agg #[.int .i64 x.f0, .int .i64 x.f1, .int .i64 x.power, .int .i64 x.paths]
  | 20, v, W, _ => ∃ B, v = .slice (some ⟨B, 0, none⟩) 1 1 ∧ N ≤ B ∧ Blk W B 115 #[.int .i64 x.f0, .int .i64 x.f1, .int .i64 x.power, .int .i64 x.paths]
  | 21, v, W, _ => ∃ A c, v = .slice A (q.rn + 1) c ∧ RckRow W w0.heap.size A (q.rn + 1) c (q.rcks ++ [x])
  | 22, v, _, _ => v = .pointer (some ⟨g, 0, none⟩)
  | 23, v, _, _ => v = .pointer (some ⟨g, 2, none⟩)
  | 24, v, _, _ => v = .pointer (some ⟨g, 5, none⟩)
  | 25, _, W, _ => ∃ A c, Blk W g 128 (rCells ms ml { q with rA := A, rn := q.rn + 1, rc := c, rcks := q.rcks ++ [x] } i l) ∧ RckRow W w0.heap.size A (q.rn + 1) c (q.rcks ++ [x])
  | _, _, _, _ => True
def rkPsi (w0 : World) (g ms ml i : Nat) (l : Int) (q : Plt) : Nat → World → (Nat → Nat) → Prop
  | 5, W, _ => Blk W g 128 (rCells ms ml q i l)
  | 21, W, _ => RckRow W w0.heap.size q.rA q.rn q.rc q.rcks
  | 25, W, _ => Blk W g 128 (rCells ms ml q i l)
  | _, _, _ => True
theorem rkPhi_kept {w0 : World} {g gn N ms ml i : Nat} {l : Int} {q : Plt} {x : Rck} {W W' : World} {γ γ' : Nat → Nat} (hb : Below W.heap.size W W') (j : Nat) (v : Value) (hv : rkPhi w0 g gn N ms ml i l q x j v W γ) : rkPhi w0 g gn N ms ml i l q x j v W' γ' := by
  unfold rkPhi at hv ⊢
  split at hv <;> first | exact hv | trivial | (obtain ⟨B, h1, h2, h3⟩ := hv; exact ⟨B, h1, h2, h3.below hb h3.lt⟩) | (obtain ⟨A, c, h1, h2⟩ := hv; first | exact ⟨A, c, h1, row_next h2 hb⟩ | exact ⟨A, c, Blk.below h1 hb (Blk.lt h1), row_next h2 hb⟩)
theorem rkPsi_kept {w0 : World} {g ms ml i : Nat} {l : Int} {q : Plt} {W W' : World} {γ γ' : Nat → Nat} (hb : Below W.heap.size W W') (j : Nat) (hv : rkPsi w0 g ms ml i l q j W γ) : rkPsi w0 g ms ml i l q j W' γ' := by
  unfold rkPsi at hv ⊢
  split at hv <;> first | exact Blk.below hv hb (Blk.lt hv) | exact row_next hv hb | trivial
theorem rkPhi_row {w0 : World} {g gn N ms ml i : Nat} {l : Int} {q : Plt} {x : Rck} {W W' : World} {γ γ' : Nat → Nat} (hr : RckRow W w0.heap.size q.rA q.rn q.rc q.rcks) (hk : W.grownBy W' (Value.ownBlock (.slice q.rA q.rn q.rc))) (hlt : ∀ k, Value.ownBlock (.slice q.rA q.rn q.rc) = some k → k < N) (j : Nat) (v : Value) (hj : j ≠ 25) (hj2 : j ≠ 21) (hv : rkPhi w0 g gn N ms ml i l q x j v W γ) : rkPhi w0 g gn N ms ml i l q x j v W' γ' := by
  unfold rkPhi at hv ⊢
  split at hv <;> first | exact absurd rfl hj | exact absurd rfl hj2 | exact hv | trivial | (obtain ⟨B, h1, h2, h3⟩ := hv; exact ⟨B, h1, h2, Blk.kept h3 hk (fun e => by have := hlt B e.symm; omega)⟩)
theorem rkPsi_row {w0 : World} {g ms ml i : Nat} {l : Int} {q : Plt} {W W' : World} {γ γ' : Nat → Nat} (hr : RckRow W w0.heap.size q.rA q.rn q.rc q.rcks) (hk : W.grownBy W' (Value.ownBlock (.slice q.rA q.rn q.rc))) (j : Nat) (hj : j ≠ 21) (hv : rkPsi w0 g ms ml i l q j W γ) : rkPsi w0 g ms ml i l q j W' γ' := by
  unfold rkPsi at hv ⊢
  split at hv <;> first | exact absurd rfl hj | exact blk_row hv hr hk (by decide) | trivial
theorem rkPhi_store {w0 : World} {g gn N ms ml i : Nat} {l : Int} {q : Plt} {x : Rck} {W W' : World} {γ γ' : Nat → Nat} {cs : Array Value} (hk : W.grownBy W' (some g)) (hb : Blk W g 128 cs) (j : Nat) (v : Value) (hj : j ≠ 25) (hv : rkPhi w0 g gn N ms ml i l q x j v W γ) : rkPhi w0 g gn N ms ml i l q x j v W' γ' := by
  unfold rkPhi at hv ⊢
  split at hv <;> first | exact absurd rfl hj | exact hv | trivial | (obtain ⟨B, h1, h2, h3⟩ := hv; exact ⟨B, h1, h2, Blk.kept h3 hk (fun e => blk_ne h3 hb (by decide) (Option.some.inj e))⟩) | (obtain ⟨A, c, h1, h2⟩ := hv; exact ⟨A, c, h1, row_store h2 hk hb (by decide)⟩)
theorem rkPsi_last {w0 : World} {g ms ml i : Nat} {l : Int} {q : Plt} {W W' : World} {γ γ' : Nat → Nat} (j : Nat) (hj : j ≠ 25) (hn : ¬ (j = 5 ∨ j = 21)) (hv : rkPsi w0 g ms ml i l q j W γ) : rkPsi w0 g ms ml i l q j W' γ' := by
  unfold rkPsi
  split <;> first | exact absurd rfl hj | exact absurd (.inl rfl) hn | exact absurd (.inr rfl) hn | trivial

theorem idx_kind (x : List UInt8) : Lib.idxOfS [ba wPlant, ba wSource, ba wLink, ba wRack] (ba x) = kindOf x := by
  have e : ∀ a : List UInt8, (ba a = ba x) ↔ (x = a) := fun a => ⟨fun h => (ba_inj h).symm, fun h => by rw [h]⟩
  unfold Lib.idxOfS kindOf
  simp only [Lib.idxFromS, e, beq_iff_eq]
  repeat' split
  all_goals rfl
theorem index_any (b : Nat) (x : List UInt8) (w : World) (h : Blk w b 9 (strVals [wPlant, wSource, wLink, wRack]).toArray) :
    Calls Tryz.prog 137 #[.slice (some ⟨b, 0, none⟩) 4 4, .string (ba x)] w fun e w' => e = .returned (.int .i64 (kindOf x)) ∧ w = w' := by
  have hs := slices_Index_string b 0 4 4 [ba wPlant, ba wSource, ba wLink, ba wRack] (ba x) w (by simp) (by decide) (fun j hj => by
    have hj4 : j = 0 ∨ j = 1 ∨ j = 2 ∨ j = 3 := by simp at hj; omega
    rw [Blk.cell h]
    rcases hj4 with rfl | rfl | rfl | rfl <;> rfl)
  refine hs.mono fun e w' ⟨h1, h2⟩ => ⟨?_, h2.symm⟩
  rw [h1]
  show Ending.returned (.int .i64 (Lib.idxOfS [ba wPlant, ba wSource, ba wLink, ba wRack] (ba x))) = _
  rw [idx_kind]
theorem rdr_last {W : World} {base g ms ml : Nat} {q : Plt} {i : Nat} {l : Int} (h : RdrIn W base g ms ml q i l) (k : Int) : RdrIn (W.setCell ⟨g, 7, none⟩ (.int .i64 k)) base g ms ml q i k := by
  have hg := only_setCell (World.grownBy.refl W (some g)) (p := ⟨g, 7, none⟩) rfl (.int .i64 k)
  have hb2 : Blk (W.setCell ⟨g, 7, none⟩ (.int .i64 k)) g 128 (rCells ms ml q i k) := by
    have h := h.blk.set_ 7 (.int .i64 k)
    simpa only [rCells, List.setIfInBounds_toArray, List.set_cons_zero, List.set_cons_succ] using h
  exact ⟨hb2, h.src.kept hg h.blk, h.lnk.kept hg h.blk, ⟨row_store h.own.src hg h.blk (by decide), ⟨row_store h.own.lnk.1 hg h.blk (by decide), fun y hy => (h.own.lnk.2 y hy).kept hg h.blk (by decide)⟩, row_store h.own.rck hg h.blk (by decide)⟩, h.lens⟩
theorem rdr_buses {W : World} {base g ms ml : Nat} {q : Plt} {i : Nat} {l : Int} (h : RdrIn W base g ms ml q i l) (k : Int) : RdrIn (W.setCell ⟨g, 2, none⟩ (.int .i64 k)) base g ms ml { q with buses := k } i l := by
  have hg := only_setCell (World.grownBy.refl W (some g)) (p := ⟨g, 2, none⟩) rfl (.int .i64 k)
  have hb2 : Blk (W.setCell ⟨g, 2, none⟩ (.int .i64 k)) g 128 (rCells ms ml { q with buses := k } i l) := by
    have h := h.blk.set_ 2 (.int .i64 k)
    simpa only [rCells, List.setIfInBounds_toArray, List.set_cons_zero, List.set_cons_succ] using h
  exact ⟨hb2, h.src.kept hg h.blk, h.lnk.kept hg h.blk, ⟨row_store h.own.src hg h.blk (by decide), ⟨row_store h.own.lnk.1 hg h.blk (by decide), fun y hy => (h.own.lnk.2 y hy).kept hg h.blk (by decide)⟩, row_store h.own.rck hg h.blk (by decide)⟩, ⟨h.lens.src, h.lens.lnk, h.lens.rck, h.lens.trip⟩⟩
theorem below_cell {a W : World} {g : Nat} (h : Below a.heap.size a W) (hg : a.heap.size ≤ g) (o : Nat) (v : Value) : Below a.heap.size a (W.setCell ⟨g, o, none⟩ v) :=
  h.grown (only_setCell (World.grownBy.refl W (some g)) (p := ⟨g, o, none⟩) rfl v) h.size (fun k e => by cases e; exact hg)
theorem words_cell {W : World} {wb g : Nat} {L : List (List UInt8)} {cs : Array Value} (h : WordsAt W wb L) (hb : Blk W g 128 cs) (o : Nat) (v : Value) : WordsAt (W.setCell ⟨g, o, none⟩ v) wb L :=
  Blk.kept h (only_setCell (World.grownBy.refl W (some g)) (p := ⟨g, o, none⟩) rfl v) (fun e => blk_ne h hb (by decide) (Option.some.inj e))
theorem read_end {w0 : World} {g i : Nat} {e : Ending} {W : World} {r : Option RdS} (h : ReadEnd w0 g i e W r) : e = .returned (.tuple #[]) ∨ e = formP := by
  obtain ⟨_, h⟩ := h
  cases r with
  | none => exact .inr h.1
  | some s => exact .inl h.1
/-- What is there behind the first steps of line. -/
structure LineIn (w0 : World) (g wb : Nat) (s : RdS) (L : List (List UInt8)) (W : World) : Prop where
  low : Below w0.heap.size w0 W
  rdr : RdrAt W w0.heap.size g s
  words : WordsAt W wb L
set_option maxRecDepth 100000 in
set_option maxHeartbeats 16000000 in
theorem rline_any (w0 : World) (g wb n : Nat) (s : RdS) (L : List (List UInt8)) (w : World) (hT : Tabs w0) (hB : Below w0.heap.size w0 w) (hR : RdrAt w w0.heap.size g s) (hW : WordsAt w wb L) (hn : n = L.length) (h1 : 1 ≤ n) (hw : ∀ x ∈ L, x.length ≤ 200000) (hmany : L.length ≤ 200001) (hlim : s.d.srcs.length ≤ 200000 ∧ s.d.lnks.length ≤ 200000 ∧ s.d.rcks.length ≤ 200000) (hlast : 0 ≤ s.last) (hg : w0.heap.size ≤ g) :
    Calls Tryz.prog 109 #[.pointer (some ⟨g, 0, none⟩), .slice (some ⟨wb, 0, none⟩) n n] w fun e w' => ReadEnd w0 g s.index e w' (s.line L) := by
  have IN : Hid (LineIn w0 g wb s L (w.alloc (.cells (strVals [wPlant, wSource, wLink, wRack]).toArray 9))) := by
    have hb := (Below.refl w.heap.size w).alloc (Nat.le_refl _) (.cells (strVals [wPlant, wSource, wLink, wRack]).toArray 9)
    exact Lib.hid ⟨below_after hb (Nat.le_refl _) hB, hR.next hb, Blk.below hW hb (Blk.lt hW)⟩
  have HIX : Hid (Blk (w.alloc (.cells (strVals [wPlant, wSource, wLink, wRack]).toArray 9)) w.heap.size 9 (strVals [wPlant, wSource, wLink, wRack]).toArray) := Lib.hid (heap_alloc_new w _)
  obtain ⟨kw, r, hL⟩ : ∃ kw r, L = kw :: r := by
    cases L with
    | nil => simp at hn; omega
    | cons kw r => exact ⟨kw, r, rfl⟩
  have HT := Lib.hid hT
  have c0 : w.cell? ⟨wb, 0, none⟩ = some (.string (ba kw)) := hW.cell (by rw [hL]; rfl)
  have hwlt := Blk.lt hW
  have IX := Lib.hid (fun W h => index_any w.heap.size kw W h)
  have MY := Lib.hid must_yes
  have MN := Lib.hid must_no
  have hline : s.line L = if s.last ≤ kindOf kw ∧ (kindOf kw = 0 ↔ s.index = 0) then s.kind (kindOf kw) r else none := by rw [hL]; rfl
  have hkw := kindOf_word (w := kw)
  obtain ⟨ms, ml, q, hI, hd⟩ := IN.out.rdr
  have HI := Lib.hid hI
  have d6 := hI.cells.2.2.2.2.2.2.1
  have d7 := hI.cells.2.2.2.2.2.2.2
  clear hT hB hR hW hI
  generalize kindOf kw = k at IX hline hkw
  have i0 : (0 : Int) < (n : Int) := by omega
  have hr : L.drop 1 = r := by rw [hL]; rfl
  have hrl : n - 1 = r.length := by rw [hn, hL]; simp
  have HL := Lib.hid (And.intro hL (And.intro hn (And.intro hr hrl)))
  have NO : Hid (s.line L = none → ReadEnd w0 g s.index formP (w.alloc (.cells (strVals [wPlant, wSource, wLink, wRack]).toArray 9)) (s.line L)) := Lib.hid (fun h => by
    rw [h]
    exact ⟨IN.out.low, rfl, HI.out.gone⟩)
  have i1 : (1 : Int) ≤ (n : Int) := by omega
  obtain ⟨A1, hA1⟩ : ∃ A : Option Addr, (if n = 1 then some ⟨wb, 0, none⟩ else some ⟨wb, 1, none⟩) = A := ⟨_, rfl⟩
  have HA : Hid (0 < n - 1 → A1 = some ⟨wb, 1, none⟩) := Lib.hid (fun h => by rw [← hA1, if_neg (by omega)])
  clear hL hn hr hrl
  by_cases hl : s.last ≤ k
  · have q1 : decide (s.last ≤ k) = true := decide_eq_true hl
    by_cases hq : (k = 0 ↔ s.index = 0)
    · have q2 : ((k == 0) == ((s.index : Int) == 0)) = true := by
        rw [beq_iff_eq]
        by_cases h0 : k = 0
        · have h2 := hq.1 h0
          rw [h0, h2]
          rfl
        · have h2 : (k == 0) = false := beq_eq_false_iff_ne.2 h0
          have h3 : ((s.index : Int) == 0) = false := beq_eq_false_iff_ne.2 (fun e => h0 (hq.2 (by omega)))
          rw [h2, h3]
      have hkind : Hid (s.line L = s.kind k r) := Lib.hid (by rw [hline, if_pos ⟨hl, hq⟩])
      have hk4 : k = 0 ∨ k = 1 ∨ k = 2 ∨ k = 3 := by
        rcases hkw with h | h | h | h | h
        · exact .inl h.1
        · exact .inr (.inl h.1)
        · exact .inr (.inr (.inl h.1))
        · exact .inr (.inr (.inr h.1))
        · have := h.1
          omega
      have fz := HI.out.blk.frozen
      have I2 : Hid (RdrIn ((w.alloc (.cells (strVals [wPlant, wSource, wLink, wRack]).toArray 9)).setCell ⟨g, 7, none⟩ (.int .i64 k)) w0.heap.size g ms ml q s.index k ∧ Below w0.heap.size w0 ((w.alloc (.cells (strVals [wPlant, wSource, wLink, wRack]).toArray 9)).setCell ⟨g, 7, none⟩ (.int .i64 k)) ∧ WordsAt ((w.alloc (.cells (strVals [wPlant, wSource, wLink, wRack]).toArray 9)).setCell ⟨g, 7, none⟩ (.int .i64 k)) wb L) := by
        exact Lib.hid ⟨rdr_last HI.out k, below_cell IN.out.low hg 7 _, words_cell IN.out.words HI.out.blk 7 _⟩
      have HKI := Lib.hid hkind.out
      have hwr : ∀ x ∈ r, x.length ≤ 200000 := fun x hx => hw x (by rw [HL.out.1]; exact List.mem_cons_of_mem _ hx)
      have RD : Hid (∀ W, WordsAt W wb L → Rd W W.heap.size 1 encS A1 (n - 1) r) := Lib.hid (fun W h => by
        by_cases h0 : n - 1 = 0
        · have h2 : r = [] := List.eq_nil_of_length_eq_zero (by rw [← HL.out.2.2.2]; exact h0)
          exact ⟨HL.out.2.2.2.symm, fun h3 => absurd h3 (by omega)⟩
        · rw [HA.out (by omega)]
          have h3 := h.rd 1 (n - 1) (by have := HL.out.2.1; omega)
          rw [HL.out.2.2.1, List.take_of_length_le (by have := HL.out.2.2.2; omega)] at h3
          exact h3)
      have NU := Lib.hid (fun A m hm W hr hw hT => numbers_any A (n - 1) (n - 1) m r W hr hm hw hT)
      clear hline hkw NO hq hl hkind
      go_enter Tryz.func109, Tryz.ntmps109
      go_wp2_with fail
      refine (IX.out _ HIX.out).mono ?_
      rintro e w1 ⟨rfl, rfl⟩
      go_wp2_with fail
      refine (MY.out _).mono ?_
      rintro e w1 ⟨rfl, rfl⟩
      clear q1 q2
      rcases hk4 with rfl | rfl | rfl | rfl
      · go_wp2_with fail
        refine (NU.out A1 1 (by omega) _ (RD.out _ I2.out.2.2) hwr (HT.out.from_ I2.out.2.1 (Nat.le_refl _))).mono ?_
        rintro e w3 ⟨hB3, hE⟩
        have I3 : Hid (RdrIn w3 w0.heap.size g ms ml q s.index 0 ∧ Below w0.heap.size w0 w3) := Lib.hid ⟨I2.out.1.next hB3, below_after hB3 (Nat.le_refl _) I2.out.2.1⟩
        clear hB3
        cases hna : numsL (n - 1) 1 r with
        | none =>
          have key : Hid (s.line L = none) := Lib.hid (by
            rw [HKI.out, RdS.kind, if_pos rfl]
            unfold numsL at hna
            rw [HL.out.2.2.2] at hna
            rw [hna])
          rw [hna] at hE
          subst hE
          go_wp2_with fail
          refine ⟨rfl, ?_⟩
          rw [key.out]
          exact ⟨I3.out.2, rfl, I3.out.1.gone⟩
        | some a =>
          have hl1 : n - 1 = 1 := by
            unfold numsL at hna
            split at hna
            · assumption
            · cases hna
          have hna' : numAll r = some a := by rw [numsL, if_pos hl1] at hna; exact hna
          have hal := numAll_len hna'
          rw [← HL.out.2.2.2, hl1] at hal
          obtain ⟨z, rfl⟩ : ∃ z, a = [z] := by
            match a, hal with
            | [z], _ => exact ⟨z, rfl⟩
          have key : Hid (s.line L = some ⟨s.index, 0, { s.d with buses := z }⟩) := Lib.hid (by
            rw [HKI.out, RdS.kind, if_pos rfl, if_pos (by rw [← HL.out.2.2.2]; exact hl1), hna'])
          rw [hna] at hE
          obtain ⟨g1, rfl, hg1, hN⟩ := hE
          have e0 : w3.cell? ⟨g1, 0, none⟩ = some (.int .i64 z) := hN.cell rfl
          have d2 := I3.out.1.cells.2.2.1
          have fz3 := I3.out.1.blk.frozen
          have OUT : Hid (RdrAt (w3.setCell ⟨g, 2, none⟩ (.int .i64 z)) w0.heap.size g ⟨s.index, 0, { s.d with buses := z }⟩ ∧ Below w0.heap.size w0 (w3.setCell ⟨g, 2, none⟩ (.int .i64 z))) := Lib.hid ⟨⟨ms, ml, _, rdr_buses I3.out.1 z, by simp only [← hd, Plt.data]⟩, below_cell I3.out.2 hg 2 _⟩
          clear hN hna hna' hal
          go_wp2
          go_end0
          refine ⟨OUT.out.2, ?_⟩
          rw [key.out]
          exact ⟨rfl, OUT.out.1⟩
      · go_wp2_with fail
        have key : Hid (s.line L = (readSrc (L.drop 1)).map (addSrc ⟨s.index, 1, s.d⟩)) := Lib.hid (by
          rw [HKI.out, HL.out.2.2.1, RdS.kind, if_neg (by decide), if_pos rfl]
          cases readSrc r <;> rfl)
        refine (source_any w0 g wb (n - 1) (n - 1) ⟨s.index, 1, s.d⟩ L _ HT.out I2.out.2.1 ⟨ms, ml, q, I2.out.1, hd⟩ I2.out.2.2 (by have := HL.out.2.1; omega) (Nat.le_refl _) A1 HA.out hw hlim.1 hg).mono ?_
        rintro e w3 hE
        rw [← key.out] at hE
        rcases read_end hE with rfl | rfl
        · go_wp2
          go_end0
          exact hE
        · go_wp2_with fail
          exact ⟨rfl, hE⟩
      · go_wp2_with fail
        have key : Hid (s.line L = (readLnk (L.drop 1)).map (addLnk ⟨s.index, 2, s.d⟩)) := Lib.hid (by
          rw [HKI.out, HL.out.2.2.1, RdS.kind, if_neg (by decide), if_neg (by decide), if_pos rfl]
          cases readLnk r <;> rfl)
        refine (link_any w0 g wb (n - 1) (n - 1) ⟨s.index, 2, s.d⟩ L _ HT.out I2.out.2.1 ⟨ms, ml, q, I2.out.1, hd⟩ I2.out.2.2 (by have := HL.out.2.1; omega) (Nat.le_refl _) A1 HA.out hw hmany hlim.2.1 hg).mono ?_
        rintro e w3 hE
        rw [← key.out] at hE
        rcases read_end hE with rfl | rfl
        · go_wp2
          go_end0
          exact hE
        · go_wp2_with fail
          exact ⟨rfl, hE⟩
      · go_wp2_with fail
        refine (NU.out A1 4 (by omega) _ (RD.out _ I2.out.2.2) hwr (HT.out.from_ I2.out.2.1 (Nat.le_refl _))).mono ?_
        rintro e w3 ⟨hB3, hE⟩
        have I3 : Hid (RdrIn w3 w0.heap.size g ms ml q s.index 3 ∧ Below w0.heap.size w0 w3) := Lib.hid ⟨I2.out.1.next hB3, below_after hB3 (Nat.le_refl _) I2.out.2.1⟩
        clear hB3
        cases hna : numsL (n - 1) 4 r with
        | none =>
          have key : Hid (s.line L = none) := Lib.hid (by
            unfold numsL at hna
            rw [HL.out.2.2.2] at hna
            have h5 : readRck r = none := by
              unfold readRck
              by_cases h4 : r.length = 4
              · rw [if_pos h4] at hna ⊢
                rw [hna]
              · rw [if_neg h4]
            rw [HKI.out, RdS.kind, if_neg (by decide), if_neg (by decide), if_neg (by decide), h5])
          rw [hna] at hE
          subst hE
          go_wp2_with fail
          refine ⟨rfl, ?_⟩
          rw [key.out]
          exact ⟨I3.out.2, rfl, I3.out.1.gone⟩
        | some a =>
          have hl1 : n - 1 = 4 := by
            unfold numsL at hna
            split at hna
            · assumption
            · cases hna
          have hna' : numAll r = some a := by rw [numsL, if_pos hl1] at hna; exact hna
          have hal := numAll_len hna'
          rw [← HL.out.2.2.2, hl1] at hal
          obtain ⟨z0, z1, z2, z3, rfl⟩ : ∃ a0 a1 a2 a3, a = [a0, a1, a2, a3] := by
            match a, hal with
            | [a0, a1, a2, a3], _ => exact ⟨a0, a1, a2, a3, rfl⟩
          obtain ⟨x, hx⟩ : ∃ x : Rck, x = ⟨z0, z1, z2, z3⟩ := ⟨_, rfl⟩
          have key : Hid (s.line L = some ⟨s.index, 3, { s.d with rcks := s.d.rcks ++ [x] }⟩) := Lib.hid (by
            rw [HKI.out, RdS.kind, if_neg (by decide), if_neg (by decide), if_neg (by decide), readRck, if_pos (by rw [← HL.out.2.2.2]; exact hl1), hna', hx])
          rw [hna] at hE
          obtain ⟨gn, rfl, hg1, hN⟩ := hE
          have HN : Hid (IntB w3 gn [x.f0, x.f1, x.power, x.paths]) := Lib.hid (by rw [hx]; exact hN)
          have hrck : q.rcks = s.d.rcks := congrArg PlD.rcks hd
          have hrn : q.rn ≤ 200000 := by rw [← I3.out.1.lens.rck, hrck]; exact hlim.2.2
          have hltr : ∀ k, Value.ownBlock (.slice q.rA q.rn q.rc) = some k → k < w3.heap.size := fun k e => (row_blk_lt I3.out.1.own.rck e).2
          have HGX := Lib.hid hg
          have NB := Lib.hid ((Below.refl w3.heap.size w3).drew)
          have R0 : Hid (RckR w0 g gn ms ml q x s.index w3.heap.size w3.drew) := Lib.hid ⟨I3.out.2.drew, Nat.le_refl _, I3.out.1.src.next NB.out, I3.out.1.lnk.next NB.out, row_next I3.out.1.own.src NB.out, ⟨row_next I3.out.1.own.lnk.1 NB.out, fun y hy => (I3.out.1.own.lnk.2 y hy).next NB.out⟩, HN.out, I3.out.1.gone.next NB.out⟩
          have P0 : Hid (∀ j, rkPsi w0 g ms ml s.index 3 q j w3.drew (fun _ => 0)) := Lib.hid (fun j => by
            unfold rkPsi
            split
            · exact I3.out.1.blk
            · exact row_next I3.out.1.own.rck NB.out
            · exact I3.out.1.blk
            · trivial)
          obtain ⟨j0, hi1, hi2, hi3, hi4⟩ := info_parts rckInf
          have hi := Lib.hid (And.intro hi1 (And.intro hi2 (And.intro hi3 hi4)))
          clear hN hna hna' hal hx hi1 hi2 hi3 hi4
          go_wp2_with fail
          refine wp_region_free9p 25 (by kernel_rfl) [some 59, some 60, some 61, some 62, some 63, some 64, some 65, some 66, some 67, some 68, some 69, some 70, some 71, some 72, some 73, some 74, some 75, some 76, some 77, some 78, some 79, some 80, some 81, some 82, some 83, none] [[], [], [1], [2], [3], [4], [], [6], [7], [], [9], [10], [8, 11], [], [13], [14], [], [16], [17], [12, 15, 18], [19], [5, 20], [0, 0, 1, 2, 3, 4, 5, 6, 7, 8, 9, 10, 11, 12, 13, 14, 15, 16, 17, 18, 19, 20, 21], [22, 0, 1, 2, 3, 4, 5, 6, 7, 8, 9, 10, 11, 12, 13, 14, 15, 16, 17, 18, 19, 20, 21], [23, 0, 1, 2, 3, 4, 5, 6, 7, 8, 9, 10, 11, 12, 13, 14, 15, 16, 17, 18, 19, 20, 21], [24, 21, 21, 0, 1, 2, 3, 4, 5, 6, 7, 8, 9, 10, 11, 12, 13, 14, 15, 16, 17, 18, 19, 20, 21]] [(0, .pointer (some ⟨g, 0, none⟩)), (5, .slice (some ⟨gn, 0, none⟩) 4 4)] (fun W _ => RckR w0 g gn ms ml q x s.index w3.heap.size W) (rkPhi w0 g gn w3.heap.size ms ml s.index 3 q x) (rkPsi w0 g ms ml s.index 3 q) (by kernel_rfl) (by kernel_rfl) rfl (by kernel_rfl) ?_ ?_ ⟨fun _ => 0, R0.out, fun j _ => P0.out j⟩ ?_ ?_
          · intro z hz
            simp only [List.mem_cons, List.mem_nil_iff, or_false] at hz
            rcases hz with rfl | rfl
            all_goals exact ⟨by kernel_rfl, rfl⟩
          · intro i v W γ hi h
            rcases i with _ | _ | _ | _ | _ | _ | _ | _ | _ | _ | _ | _ | _ | _ | _ | _ | _ | _ | _ | _ | _ | _ | _ | _ | _ | _ | i
            all_goals first | exact h | (simp at hi)
          · refine ⟨?_, ?_, ?_, ?_, ?_, ?_, ?_, ?_, ?_, ?_, ?_, ?_, ?_, ?_, ?_, ?_, ?_, ?_, ?_, ?_, ?_, ?_, ?_, ?_, ?_, ?_, trivial⟩
            all_goals
              intro a W γ ev hcc hff hfx hdf hR hψ hpre
              simp only [List.mem_cons, List.mem_nil_iff, or_false, forall_eq, forall_eq_or_imp] at hfx
              obtain ⟨f0, f1⟩ := hfx
              have t0 : W.cell? ⟨gn, 0, none⟩ = some (.int .i64 x.f0) := hR.nums.cell rfl
              have t1 : W.cell? ⟨gn, 1, none⟩ = some (.int .i64 x.f1) := hR.nums.cell rfl
              have t2 : W.cell? ⟨gn, 2, none⟩ = some (.int .i64 x.power) := hR.nums.cell rfl
              have t3 : W.cell? ⟨gn, 3, none⟩ = some (.int .i64 x.paths) := hR.nums.cell rfl
              have HR := Lib.hid hR
              have HD := Lib.hid hdf
              clear hR hdf
              refine ⟨fun _ K hK => ?_, trivial⟩
            · clear hpre hψ
              go_simp
              exact hK _ _ γ HR.out (fun _ _ _ _ h => h) (fun _ _ _ h => h) rfl
            · clear hpre hψ
              go_simp
              exact hK _ _ γ HR.out (fun _ _ _ _ h => h) (fun _ _ _ h => h) rfl
            · have q1 : ev (.tmp 60) = _ := hpre 1 (by decide)
              clear hpre hψ
              go_simp
              exact hK _ _ γ HR.out (fun _ _ _ _ h => h) (fun _ _ _ h => h) rfl
            · have q1 : ev (.tmp 61) = _ := hpre 2 (by decide)
              clear hpre hψ
              go_simp
              exact hK _ _ γ HR.out (fun _ _ _ _ h => h) (fun _ _ _ h => h) rfl
            · have q1 : ev (.tmp 62) = _ := hpre 3 (by decide)
              clear hpre hψ
              go_simp
              exact hK _ _ γ HR.out (fun _ _ _ _ h => h) (fun _ _ _ h => h) rfl
            · have q1 : ev (.tmp 63) = _ := hpre 4 (by decide)
              have hb : Blk W g 128 (rCells ms ml q s.index 3) := hψ
              have d5 : W.cell? ⟨g, 5, none⟩ = some (.slice q.rA q.rn q.rc) := hb.cell 5
              clear hpre hψ hb
              go_simp
              exact hK _ _ γ HR.out (fun _ _ _ _ h => h) (fun _ _ _ h => h) rfl
            · clear hpre hψ
              go_simp
              exact hK _ _ γ HR.out (fun _ _ _ _ h => h) (fun _ _ _ h => h) rfl
            · have q1 : ev (.tmp 65) = _ := hpre 6 (by decide)
              clear hpre hψ
              go_simp
              exact hK _ _ γ HR.out (fun _ _ _ _ h => h) (fun _ _ _ h => h) rfl
            · have q1 : ev (.tmp 66) = _ := hpre 7 (by decide)
              clear hpre hψ
              go_simp
              exact hK _ _ γ HR.out (fun _ _ _ _ h => h) (fun _ _ _ h => h) rfl
            · clear hpre hψ
              go_simp
              exact hK _ _ γ HR.out (fun _ _ _ _ h => h) (fun _ _ _ h => h) rfl
            · have q1 : ev (.tmp 68) = _ := hpre 9 (by decide)
              clear hpre hψ
              go_simp
              exact hK _ _ γ HR.out (fun _ _ _ _ h => h) (fun _ _ _ h => h) rfl
            · have q1 : ev (.tmp 69) = _ := hpre 10 (by decide)
              clear hpre hψ
              go_simp
              exact hK _ _ γ HR.out (fun _ _ _ _ h => h) (fun _ _ _ h => h) rfl
            · have q1 : ev (.tmp 67) = _ := hpre 8 (by decide)
              have q2 : ev (.tmp 70) = _ := hpre 11 (by decide)
              clear hpre hψ
              go_simp
              exact hK _ _ γ HR.out (fun _ _ _ _ h => h) (fun _ _ _ h => h) rfl
            · clear hpre hψ
              go_simp
              exact hK _ _ γ HR.out (fun _ _ _ _ h => h) (fun _ _ _ h => h) rfl
            · have q1 : ev (.tmp 72) = _ := hpre 13 (by decide)
              clear hpre hψ
              go_simp
              exact hK _ _ γ HR.out (fun _ _ _ _ h => h) (fun _ _ _ h => h) rfl
            · have q1 : ev (.tmp 73) = _ := hpre 14 (by decide)
              clear hpre hψ
              go_simp
              exact hK _ _ γ HR.out (fun _ _ _ _ h => h) (fun _ _ _ h => h) rfl
            · clear hpre hψ
              go_simp
              exact hK _ _ γ HR.out (fun _ _ _ _ h => h) (fun _ _ _ h => h) rfl
            · have q1 : ev (.tmp 75) = _ := hpre 16 (by decide)
              clear hpre hψ
              go_simp
              exact hK _ _ γ HR.out (fun _ _ _ _ h => h) (fun _ _ _ h => h) rfl
            · have q1 : ev (.tmp 76) = _ := hpre 17 (by decide)
              clear hpre hψ
              go_simp
              exact hK _ _ γ HR.out (fun _ _ _ _ h => h) (fun _ _ _ h => h) rfl
            · have q1 : ev (.tmp 71) = _ := hpre 12 (by decide)
              have q2 : ev (.tmp 74) = _ := hpre 15 (by decide)
              have q3 : ev (.tmp 77) = _ := hpre 18 (by decide)
              clear hpre hψ
              go_simp
              exact hK _ _ γ HR.out (fun _ _ _ _ h => h) (fun _ _ _ h => h) rfl
            · have q1 : ev (.tmp 78) = _ := hpre 19 (by decide)
              clear hpre hψ
              go_simp
              have HB : Below W.heap.size W (W.alloc (.cells #[.int .i64 x.f0, .int .i64 x.f1, .int .i64 x.power, .int .i64 x.paths] 115)) := (Below.refl _ _).alloc (Nat.le_refl _) _
              exact hK _ _ γ (HR.out.next HB) (fun j u _ _ h => rkPhi_kept HB j u h) (fun j _ _ h => rkPsi_kept HB j h) ⟨W.heap.size, rfl, HR.out.size, heap_alloc_new W _⟩
            · have q1 : ev (.tmp 64) = _ := hpre 5 (by decide)
              obtain ⟨B, q2, hB1, hB2⟩ := hpre 20 (by decide)
              replace q2 : ev (.tmp 79) = _ := q2
              have hrow : RckRow W w0.heap.size q.rA q.rn q.rc q.rcks := hψ
              obtain ⟨v', W', hr, h2, h3, _, _⟩ := run_append_own_at (P := Tryz.prog) W w0.heap.size 24 24 115 j0 (.agg #[.int .i64 0, .int .i64 0, .int .i64 0, .int .i64 0]) 4 32 Tryz.underlying24 hi.out.1 hi.out.2.1 hi.out.2.2.1 hi.out.2.2.2 rfl (by decide) (.slice q.rA q.rn q.rc) q.rn (q.rcks.flatMap Rck.enc) hrow ⟨B, 0, none⟩ 1 1 (Rck.enc x) rfl (fun j u hj => by
                rw [add0, Blk.cell hB2]
                simpa [Rck.enc] using hj) (fun u hu => by simp only [Rck.enc, List.mem_cons, List.mem_nil_iff, or_false] at hu; rcases hu with rfl | rfl | rfl | rfl <;> rfl) (by simp only [maxLen]; omega) (by omega) HR.out.low.size
              unfold execOp
              simp only [resolve, invoke, builtin, Sem.run_bind, Sem.run_pure, Result.andThen_ok, List.map_toArray, List.map_cons, List.map_nil, q1, q2, hr]
              obtain ⟨A', c', e'⟩ := row_slice h2
              subst e'
              refine hK _ W' γ (HR.out.row hrow h3) (fun j u hj hne h => rkPhi_row hrow h3 hltr j u (fun e => hj (by subst e; decide)) hne h) (fun j hj hnb h => rkPsi_row hrow h3 j hj h) ⟨A', c', rfl, ?_⟩
              unfold RckRow
              rw [List.flatMap_append]
              exact h2
            · have q1 : ev (.tmp 59) = _ := hpre 0 (by decide)
              clear hpre hψ
              go_simp
              exact hK _ _ γ HR.out (fun _ _ _ _ h => h) (fun _ _ _ h => h) rfl
            · have q1 : ev (.tmp 81) = _ := hpre 22 (by decide)
              clear hpre hψ
              go_simp
              exact hK _ _ γ HR.out (fun _ _ _ _ h => h) (fun _ _ _ h => h) rfl
            · have q1 : ev (.tmp 82) = _ := hpre 23 (by decide)
              clear hpre hψ
              go_simp
              exact hK _ _ γ HR.out (fun _ _ _ _ h => h) (fun _ _ _ h => h) rfl
            · have q1 : ev (.tmp 83) = _ := hpre 24 (by decide)
              obtain ⟨A', c', q2, hrow⟩ := hpre 21 (by decide)
              replace q2 : ev (.tmp 80) = _ := q2
              have hb : Blk W g 128 (rCells ms ml q s.index 3) := hψ
              have d5 : W.cell? ⟨g, 5, none⟩ = some (.slice q.rA q.rn q.rc) := hb.cell 5
              have fz := hb.frozen
              have hg := only_setCell (World.grownBy.refl W (some g)) (p := ⟨g, 5, none⟩) rfl (.slice A' (q.rn + 1) c')
              have hb2 : Blk (W.setCell ⟨g, 5, none⟩ (.slice A' (q.rn + 1) c')) g 128 (rCells ms ml { q with rA := A', rn := q.rn + 1, rc := c', rcks := q.rcks ++ [x] } s.index 3) := by
                have h := hb.set_ 5 (.slice A' (q.rn + 1) c')
                simpa only [rCells, List.setIfInBounds_toArray, List.set_cons_zero, List.set_cons_succ] using h
              have HG := Lib.hid hg
              have HB2 := Lib.hid hb2
              have HRW := Lib.hid hrow
              have HB := Lib.hid hb
              clear hpre hψ hg hb2 hrow hb
              go_simp
              exact hK undef _ γ (HR.out.store HGX.out HG.out HB.out HB2.out) (fun j u _ hne h => rkPhi_store HG.out HB.out j u hne h) (fun j hj hnb h => rkPsi_last j hj (fun h' => hnb (by rcases h' with rfl | rfl <;> decide)) h) ⟨A', c', HB2.out, row_store HRW.out HG.out HB.out (by decide)⟩
          · intro vs w' γ hvl hR hφ
            obtain ⟨A', c', hb, hrow⟩ := hφ 25 (by decide)
            have HR := Lib.hid hR
            have HBX := Lib.hid hb
            have HRW := Lib.hid hrow
            clear hφ hR hb hrow
            match vs, hvl with
            | [y0, y1, y2, y3, y4, y5, y6, y7, y8, y9, y10, y11, y12, y13, y14, y15, y16, y17, y18, y19, y20, y21, y22, y23, y24, y25], _ =>
            simp [putAll]
            go_wp2
            go_end0
            refine ⟨HR.out.low, ?_⟩
            rw [key.out]
            refine ⟨rfl, ms, ml, _, ⟨HBX.out, HR.out.src, HR.out.lnk, ⟨HR.out.srcs, HR.out.lnks, HRW.out⟩, ⟨I3.out.1.lens.src, I3.out.1.lens.lnk, ?_, I3.out.1.lens.trip⟩⟩, ?_⟩
            · simp [I3.out.1.lens.rck]
            · simp only [← hd, Plt.data]
    · have q2 : ((k == 0) == ((s.index : Int) == 0)) = false := by
        rw [beq_eq_false_iff_ne]
        intro e
        apply hq
        constructor
        · intro h
          rw [h] at e
          simp at e
          omega
        · intro h
          rw [h] at e
          simp at e
          exact e
      have hnone : s.line L = none := by rw [hline, if_neg (fun h => hq h.2)]
      have HNO := Lib.hid (NO.out hnone)
      clear hline hnone hkw NO hq
      go_enter Tryz.func109, Tryz.ntmps109
      go_wp2_with fail
      refine (IX.out _ HIX.out).mono ?_
      rintro e w1 ⟨rfl, rfl⟩
      go_wp2_with fail
      refine (MN.out _).mono ?_
      rintro e w1 ⟨rfl, rfl⟩
      go_wp2_with fail
      exact ⟨rfl, HNO.out⟩
  · have q1 : decide (s.last ≤ k) = false := decide_eq_false hl
    have hnone : s.line L = none := by rw [hline, if_neg (fun h => hl h.1)]
    have HNO := Lib.hid (NO.out hnone)
    clear hline hnone hkw NO hl
    go_enter Tryz.func109, Tryz.ntmps109
    go_wp2_with fail
    refine (IX.out _ HIX.out).mono ?_
    rintro e w1 ⟨rfl, rfl⟩
    go_wp2_with fail
    refine (MN.out _).mono ?_
    rintro e w1 ⟨rfl, rfl⟩
    go_wp2_with fail
    exact ⟨rfl, HNO.out⟩
end Go.Proofs.YtcnmfblbfpcghaaGreatDoor

/- (*plant.reader).lines. -/

set_option linter.unusedSimpArgs false
set_option linter.unusedVariables false
namespace Go.Proofs.YtcnmfblbfpcghaaGreatDoor
open Go.RowKit Go.Shelf

/-- strings.Cut at one byte. -/
theorem cut_any (c : UInt8) (x : List UInt8) (w : World) (hT : Tabs w) (hx : x.length ≤ 200000) :
    Calls Tryz.prog 108 #[.string (ba x), .string ⟨#[c]⟩] w fun e w' => e = .returned (.tuple #[.string (ba (cutC c x).1), .string (ba (cutC c x).2.1), .bool (cutC c x).2.2]) ∧ Below w.heap.size w w' := by
  obtain ⟨m, hm⟩ := hT.max
  have hs := cut_one c x
  refine (strings_Cut (ba x) ⟨#[c]⟩ m w (by rw [ba_len]; omega) hm).mono fun e w' ⟨h1, n, h2⟩ => ?_
  rw [show (ba x).data.toList = x from rfl, show (⟨#[c]⟩ : ByteArray).data.toList = [c] from rfl, hs] at h1
  exact ⟨h1, by rw [h2]; exact below_drewN (Below.refl _ _) n⟩
theorem kind_lens {s s' : RdS} {k : Int} {r : List (List UInt8)} (hk : 0 ≤ k) (h : s.kind k r = some s') : s'.index = s.index ∧ 0 ≤ s'.last ∧ s'.d.srcs.length ≤ s.d.srcs.length + 1 ∧ s'.d.lnks.length ≤ s.d.lnks.length + 1 ∧ s'.d.rcks.length ≤ s.d.rcks.length + 1 := by
  unfold RdS.kind at h
  split at h
  · split at h
    · cases h; exact ⟨rfl, hk, by simp, by simp, by simp⟩
    · cases h
  · split at h
    · split at h
      · cases h; exact ⟨rfl, hk, by simp, by simp, by simp⟩
      · cases h
    · split at h
      · split at h
        · cases h; exact ⟨rfl, hk, by simp, by simp, by simp⟩
        · cases h
      · split at h
        · cases h; exact ⟨rfl, hk, by simp, by simp, by simp⟩
        · cases h
theorem rline_lens {s s' : RdS} {ws : List (List UInt8)} (hl : 0 ≤ s.last) (h : s.line ws = some s') : s'.index = s.index ∧ 0 ≤ s'.last ∧ s'.d.srcs.length ≤ s.d.srcs.length + 1 ∧ s'.d.lnks.length ≤ s.d.lnks.length + 1 ∧ s'.d.rcks.length ≤ s.d.rcks.length + 1 := by
  cases ws with
  | nil => cases h
  | cons w r =>
    rw [RdS.line] at h
    split at h
    · rename_i hk
      exact kind_lens (by omega) h
    · cases h
/-- What a reader keeps from line to line. -/
structure RdSOk (t : List UInt8) (s : RdS) (rest : List UInt8) : Prop where
  last : 0 ≤ s.last
  room : s.index + rest.length ≤ t.length
  srcs : s.d.srcs.length ≤ s.index
  lnks : s.d.lnks.length ≤ s.index
  rcks : s.d.rcks.length ≤ s.index
theorem rdr_step {W : World} {base g ms ml : Nat} {q : Plt} {i : Nat} {l : Int} (h : RdrIn W base g ms ml q i l) : RdrIn (W.setCell ⟨g, 6, none⟩ (.int .i64 ((i : Int) + 1))) base g ms ml q (i + 1) l := by
  have hg := only_setCell (World.grownBy.refl W (some g)) (p := ⟨g, 6, none⟩) rfl (.int .i64 ((i : Int) + 1))
  have hb2 : Blk (W.setCell ⟨g, 6, none⟩ (.int .i64 ((i : Int) + 1))) g 128 (rCells ms ml q (i + 1) l) := by
    have h := h.blk.set_ 6 (.int .i64 ((i : Int) + 1))
    simpa only [rCells, List.setIfInBounds_toArray, List.set_cons_zero, List.set_cons_succ, Int.natCast_add, Int.natCast_one] using h
  exact ⟨hb2, h.src.kept hg h.blk, h.lnk.kept hg h.blk, ⟨row_store h.own.src hg h.blk (by decide), ⟨row_store h.own.lnk.1 hg h.blk (by decide), fun y hy => (h.own.lnk.2 y hy).kept hg h.blk (by decide)⟩, row_store h.own.rck hg h.blk (by decide)⟩, h.lens⟩
/-- How the reading of all lines ends. -/
def LinesEnd (w0 : World) (g : Nat) (e : Ending) (W : World) (r : Nat × Option RdS) : Prop :=
  Below w0.heap.size w0 W ∧ match r.2 with
    | some s => e = .returned (.tuple #[]) ∧ RdrAt W w0.heap.size g s
    | none => e = formP ∧ Gone W g r.1
def strLen : Value → Nat
  | .string b => b.size
  | _ => 0
set_option maxRecDepth 100000 in
set_option maxHeartbeats 8000000 in
theorem lines_any (w0 : World) (g : Nat) (t : List UInt8) (w : World) (ht : t.length ≤ 131072) (hT : Tabs w0) (hB : Below w0.heap.size w0 w) (hR : RdrAt w w0.heap.size g RdS.zero) (hg : w0.heap.size ≤ g) :
    Calls Tryz.prog 64 #[.pointer (some ⟨g, 0, none⟩), .string (ba t)] w fun e w' => LinesEnd w0 g e w' (parseL t) := by
  have HT := Lib.hid hT
  have J0 : Hid (RdSOk t RdS.zero t ∧ RdrAt w w0.heap.size g RdS.zero ∧ Below w0.heap.size w0 w ∧ parseL t = linesL (t.length + 1) RdS.zero t) := Lib.hid ⟨⟨by decide, by simp [RdS.zero], by simp [RdS.zero, PlD.zero], by simp [RdS.zero, PlD.zero], by simp [RdS.zero, PlD.zero]⟩, hR, hB, rfl⟩
  have MY := Lib.hid must_yes
  have MN := Lib.hid must_no
  clear hT hB hR
  generalize hres : parseL t = res at *
  clear hres
  go_enter Tryz.func64, Tryz.ntmps64
  go_wp2
  go_loopw [4] (fun v wr => ∃ (s : RdS) (rest : List UInt8) (f : Nat), v = .string (ba rest) ∧ rest.length < f ∧ Hid (RdSOk t s rest ∧ RdrAt wr w0.heap.size g s ∧ Below w0.heap.size w0 wr ∧ res = linesL f s rest)) (fun v _ => strLen v)
  case atStart => exact ⟨RdS.zero, t, t.length + 1, rfl, by omega, J0⟩
  case round =>
    clear J0
    obtain ⟨s, rest, f, rfl, hf, HJ⟩ := hrel
    obtain ⟨ms, ml, q, hI, hd⟩ := HJ.out.2.1
    have HI := Lib.hid hI
    have d6 := hI.cells.2.2.2.2.2.2.1
    clear hI
    have hroom := HJ.out.1.room
    have CU := Lib.hid (fun W hT => cut_any 10 rest W hT (by omega))
    have HGO : Hid (Gone wr g s.index) := Lib.hid HI.out.gone
    by_cases h0 : rest = []
    · subst h0
      have he : (ba []).toList.isEmpty = true := by rw [Lib.toList_data]; rfl
      by_cases hi : s.index = 0
      · have hi' : ((s.index : Int) == 0) = true := by rw [hi]; rfl
        have key : Hid (res = (s.index, none)) := Lib.hid (by
          obtain ⟨f', rfl⟩ : ∃ f', f = f' + 1 := ⟨f - 1, by simp at hf; omega⟩
          rw [HJ.out.2.2.2, linesL, if_neg (fun h => h.2 hi)]
          rfl)
        have hc : (cutC 10 ([] : List UInt8)).2.2 = false := rfl
        clear hi
        go_wp2_with fail
        refine (CU.out _ (HT.out.from_ HJ.out.2.2.1 (Nat.le_refl _))).mono ?_
        rintro e w3 ⟨rfl, hB3⟩
        rw [hc]
        go_wp2_with fail
        refine (MN.out _).mono ?_
        rintro e w1 ⟨rfl, rfl⟩
        go_wp2_with fail
        refine ⟨rfl, ?_⟩
        rw [key.out]
        exact ⟨below_after hB3 (Nat.le_refl _) HJ.out.2.2.1, rfl, HGO.out.next hB3⟩
      · have hi' : ((s.index : Int) == 0) = false := beq_eq_false_iff_ne.2 (by omega)
        have key : Hid (res = (s.index, some s)) := Lib.hid (by
          obtain ⟨f', rfl⟩ : ∃ f', f = f' + 1 := ⟨f - 1, by simp at hf; omega⟩
          rw [HJ.out.2.2.2, linesL, if_pos ⟨rfl, hi⟩])
        clear hi
        go_wp2
        go_end0
        refine ⟨HJ.out.2.2.1, ?_⟩
        rw [key.out]
        exact ⟨rfl, HJ.out.2.1⟩
    · have he : (ba rest).toList.isEmpty = false := by
        rw [Lib.toList_data]
        cases rest with
        | nil => exact absurd rfl h0
        | cons x r => rfl
      have hl1 : 1 ≤ rest.length := by
        cases rest with
        | nil => exact absurd rfl h0
        | cons x r => simp
      obtain ⟨f', rfl⟩ : ∃ f', f = f' + 1 := ⟨f - 1, by omega⟩
      cases hc : (cutC 10 rest).2.2 with
      | false =>
        have key : Hid (res = (s.index, none)) := Lib.hid (by
          rw [HJ.out.2.2.2, linesL, if_neg (fun h => h0 h.1), if_neg (by rw [hc]; decide)])
        go_wp2_with fail
        refine (CU.out _ (HT.out.from_ HJ.out.2.2.1 (Nat.le_refl _))).mono ?_
        rintro e w3 ⟨rfl, hB3⟩
        rw [hc]
        go_wp2_with fail
        refine (MN.out _).mono ?_
        rintro e w1 ⟨rfl, rfl⟩
        go_wp2_with fail
        refine ⟨rfl, ?_⟩
        rw [key.out]
        exact ⟨below_after hB3 (Nat.le_refl _) HJ.out.2.2.1, rfl, HGO.out.next hB3⟩
      | true =>
        have hcut := (cutC_some hc).1
        have hcl := congrArg List.length hcut
        simp only [List.length_append, List.length_cons] at hcl
        obtain ⟨ln, hln⟩ : ∃ z, z = (cutC 10 rest).1 := ⟨_, rfl⟩
        obtain ⟨af, haf⟩ : ∃ z, z = (cutC 10 rest).2.1 := ⟨_, rfl⟩
        have key : Hid (res = match s.line (splitC 32 ln) with | some s' => linesL f' s'.next af | none => (s.index, none)) := Lib.hid (by
          rw [HJ.out.2.2.2, linesL, if_neg (fun h => h0 h.1), if_pos hc, ← hln, ← haf]
          cases s.line (splitC 32 ln) <;> rfl)
        rw [← hln, ← haf] at hcl
        have HAF : Hid (af.length + ln.length + 1 = rest.length) := Lib.hid (by omega)
        have SP := Lib.hid (fun W hT => split_any 32 ln W hT (by omega))
        have hwl : ∀ x ∈ splitC 32 ln, x.length ≤ 200000 := fun x hx => Nat.le_trans (splitC_len 32 ln x hx) (by omega)
        have hmany : (splitC 32 ln).length ≤ 200001 := Nat.le_trans (splitC_many 32 ln) (by omega)
        have hone : 1 ≤ (splitC 32 ln).length := by
          obtain ⟨x, l, hx⟩ := splitC_cons 32 ln
          rw [hx]
          simp
        have hli := HJ.out.1
        have LN := Lib.hid (fun wb W hB hR hW => rline_any w0 g wb (splitC 32 ln).length s (splitC 32 ln) W HT.out hB hR hW rfl hone hwl hmany ⟨by have := hli.srcs; omega, by have := hli.lnks; omega, by have := hli.rcks; omega⟩ hli.last hg)
        clear hcut hwl hmany hone hli hcl
        go_wp2_with fail
        refine (CU.out _ (HT.out.from_ HJ.out.2.2.1 (Nat.le_refl _))).mono ?_
        rintro e w3 ⟨rfl, hB3⟩
        rw [hc, ← hln, ← haf]
        have I3 : Hid (RdrAt w3 w0.heap.size g s ∧ Below w0.heap.size w0 w3) := Lib.hid ⟨HJ.out.2.1.next hB3, below_after hB3 (Nat.le_refl _) HJ.out.2.2.1⟩
        clear hB3 hc hln haf
        go_wp2_with fail
        refine (MY.out _).mono ?_
        rintro e w1 ⟨rfl, rfl⟩
        go_wp2_with fail
        refine (SP.out _ (HT.out.from_ I3.out.2 (Nat.le_refl _))).mono ?_
        rintro e w4 ⟨rfl, hB4, hW4⟩
        have I4 : Hid (RdrAt w4 w0.heap.size g s ∧ Below w0.heap.size w0 w4 ∧ WordsAt w4 w3.heap.size (splitC 32 ln)) := Lib.hid ⟨I3.out.1.next hB4, below_after hB4 (Nat.le_refl _) I3.out.2, hW4⟩
        clear hB4 hW4
        go_wp2_with fail
        refine (LN.out _ _ I4.out.2.1 I4.out.1 I4.out.2.2).mono ?_
        rintro e w5 hE
        cases hr : s.line (splitC 32 ln) with
        | none =>
          have key2 : Hid (res = (s.index, none)) := Lib.hid (by rw [key.out, hr])
          rw [hr] at hE
          obtain ⟨h1, rfl, h3⟩ := hE
          go_wp2_with fail
          refine ⟨rfl, ?_⟩
          rw [key2.out]
          exact ⟨h1, rfl, h3⟩
        | some s' =>
          have key2 : Hid (res = linesL f' s'.next af) := Lib.hid (by rw [key.out, hr])
          obtain ⟨k1, k2, k3, k4, k5⟩ := rline_lens HJ.out.1.last hr
          rw [hr] at hE
          obtain ⟨h1, rfl, ms', ml', q', hI', hd'⟩ := hE
          have HI5 := Lib.hid hI'
          have H1 := Lib.hid h1
          have e6 := hI'.cells.2.2.2.2.2.2.1
          have fz5 := hI'.blk.frozen
          rw [k1] at e6
          have A1 : Below w0.heap.size w0 (w5.setCell ⟨g, 6, none⟩ (.int .i64 ((s.index : Int) + 1))) := below_cell H1.out hg 6 _
          have e1 : s'.next.index = s.index + 1 := by
            show s'.index + 1 = _
            rw [k1]
          have A2 : RdrIn (w5.setCell ⟨g, 6, none⟩ (.int .i64 ((s.index : Int) + 1))) w0.heap.size g ms' ml' q' (s.index + 1) s'.last := by
            have h8 := rdr_step HI5.out
            rw [k1] at h8
            exact h8
          have A3 : RdrAt (w5.setCell ⟨g, 6, none⟩ (.int .i64 ((s.index : Int) + 1))) w0.heap.size g s'.next := by
            refine ⟨ms', ml', q', ?_, hd'⟩
            rw [e1]
            exact A2
          have B0 := HJ.out.1.room
          have B1 := HJ.out.1.srcs
          have B2 := HJ.out.1.lnks
          have B3 := HJ.out.1.rcks
          have B4 := HAF.out
          have A4 : RdSOk t s'.next af := ⟨k2, by rw [e1]; omega, by rw [e1]; exact Nat.le_trans k3 (by omega), by rw [e1]; exact Nat.le_trans k4 (by omega), by rw [e1]; exact Nat.le_trans k5 (by omega)⟩
          have I6 := Lib.hid (And.intro A4 (And.intro A3 A1))
          have hx6 : (s.index : Int) ≤ 131072 := by omega
          clear A1 A2 A3 A4 B0 B1 B2 B3 B4 e1
          clear hI' h1 hd' k1 k2 k3 k4 k5
          go_wp2
          have B4 := HAF.out
          refine ⟨⟨s'.next, af, f', rfl, by omega, Lib.hid ⟨I6.out.1, I6.out.2.1, I6.out.2.2, key2.out⟩⟩, ?_⟩
          show (ba af).size < (ba rest).size
          rw [ba_len, ba_len]
          omega
end Go.Proofs.YtcnmfblbfpcghaaGreatDoor

/- plant.Parse. -/

set_option linter.unusedSimpArgs false
set_option linter.unusedVariables false
namespace Go.Proofs.YtcnmfblbfpcghaaGreatDoor
open Go.RowKit Go.Shelf

/-- The three results of Parse, each in a variable of its own. -/
def pStoreV (W : World) (bp bi be : Nat) (v0 v1 v2 v3 : Value) (i e : Int) : World :=
  ((((((W.setCell ⟨bp, 0, none⟩ v0).setCell ⟨bp, 1, none⟩ v1).setCell ⟨bp, 2, none⟩ v2).setCell ⟨bp, 3, none⟩ v3).setCell ⟨bi, 0, none⟩ (.int .i64 i)).setCell ⟨be, 0, none⟩ (.int .i64 e))
abbrev pStore (W : World) (bp bi be : Nat) (i e : Int) : World := pStoreV W bp bi be (.int .i64 0) (.slice none 0 0) (.slice none 0 0) (.slice none 0 0) i e
set_option maxRecDepth 100000 in
theorem catch_panic (g bp bi be : Nat) (i : Int) (c0 c1 c2 c3 c4 c5 : Value) (u : TypeId) (pv : Value) (older : List PanicEntry) (w : World)
    (hg : w.cell? ⟨g, 6, none⟩ = some (.int .i64 i)) (hp : Blk w bp 26 #[c0, c1, c2, c3]) (hi : Blk w bi 3 #[c4]) (he : Blk w be 35 #[c5]) (hn : g ≠ bp ∧ g ≠ bi ∧ g ≠ be ∧ bp ≠ bi ∧ bp ≠ be ∧ bi ≠ be) :
    CallsD Tryz.prog 63 #[.pointer (some ⟨g, 0, none⟩), .pointer (some ⟨bp, 0, none⟩), .pointer (some ⟨bi, 0, none⟩), .pointer (some ⟨be, 0, none⟩)] (.panicking ({ v := .iface u pv, recovered := false } :: older)) w fun e u' w' =>
      e = .returned (.tuple #[]) ∧ u' = .panicking ({ v := .iface u pv, recovered := true } :: older) ∧ w' = pStore w bp bi be i 3 := by
  have d0 : w.cell? ⟨bp, 0, none⟩ = some c0 := hp.cell 0
  have d1 : w.cell? ⟨bp, 1, none⟩ = some c1 := hp.cell 1
  have d2 : w.cell? ⟨bp, 2, none⟩ = some c2 := hp.cell 2
  have d3 : w.cell? ⟨bp, 3, none⟩ = some c3 := hp.cell 3
  have d4 : w.cell? ⟨bi, 0, none⟩ = some c4 := hi.cell 0
  have d5 : w.cell? ⟨be, 0, none⟩ = some c5 := he.cell 0
  have f0 := hp.frozen
  have f1 := hi.frozen
  have f2 := he.frozen
  obtain ⟨n1, n2, n3, n4, n5, n6⟩ := hn
  refine callsD_of_wpS Tryz.func63 rfl fun c₀ cs hu => ?_
  apply wpS_seq
  apply wpS_region
  simp [wpOpsS, go_sem, recoverD, hu, Tryz.ntmps63, Exit.thenS]
  refine wpS_cond (t := true) (by simp [Act.eval, Array.replicate]) ?_
  simp only [if_true]
  refine wpS_of_wp ?_
  simp only [Array.replicate_succ, Array.replicate_zero, List.push_toArray, List.append_toArray, List.nil_append, List.cons_append, List.setIfInBounds_toArray, List.set_cons_zero, List.set_cons_succ]
  go_wp2
  simp [bodyPostS, results, Tryz.results63, pStore, pStoreV]
theorem catch_idle (a b c d : Addr) (w : World) :
    CallsD Tryz.prog 63 #[.pointer (some a), .pointer (some b), .pointer (some c), .pointer (some d)] .returning w fun e u' w' => e = .returned (.tuple #[]) ∧ u' = .returning ∧ w' = w := by
  refine callsD_of_wpS Tryz.func63 rfl fun c₀ cs hu => ?_
  apply wpS_seq
  apply wpS_region
  simp [wpOpsS, go_sem, recoverD, hu, Tryz.ntmps63, Exit.thenS]
  refine wpS_cond (t := false) (by simp [Act.eval, Array.replicate]) ?_
  simp only [Bool.false_eq_true, if_false]
  refine wpS_of_wp (wp_skip ?_)
  cases c₀
  simp_all [bodyPostS, results, Tryz.results63]
theorem PltOwn.farT {W W' : World} {base rx : Nat} {q : Plt} {T : TypeId} {cs : Array Value} (h : PltOwn W base q) (hk : W.grownBy W' (some rx)) (hb : Blk W rx T cs) (t1 : T ≠ 110) (t2 : T ≠ 79) (t3 : T ≠ 112) (t4 : T ≠ 115) : PltOwn W' base q :=
  ⟨row_store h.src hk hb t1, ⟨row_store h.lnk.1 hk hb t2, fun y hy => (h.lnk.2 y hy).kept hk hb t3⟩, row_store h.rck hk hb t4⟩
theorem PltOwn.down {W : World} {base base' : Nat} {q : Plt} (h : PltOwn W base q) (hb : base' ≤ base) : PltOwn W base' q :=
  ⟨World.ownsRow.mono_base h.src hb, ⟨World.ownsRow.mono_base h.lnk.1 hb, fun y hy => World.ownsRow.mono_base (h.lnk.2 y hy) hb⟩, World.ownsRow.mono_base h.rck hb⟩
theorem pStore_is {W : World} {a : World} {B bp bi be : Nat} {c0 c1 c2 c3 c4 c5 : Value} (hp : Blk W bp 26 #[c0, c1, c2, c3]) (hi : Blk W bi 3 #[c4]) (he : Blk W be 35 #[c5]) (hn : B ≤ bp ∧ B ≤ bi ∧ B ≤ be) (hB : a.heap.size ≤ B) (hl : Below B a W) (v0 v1 v2 v3 : Value) (i e : Int) :
    Below B a (pStoreV W bp bi be v0 v1 v2 v3 i e) ∧ Blk (pStoreV W bp bi be v0 v1 v2 v3 i e) bp 26 #[v0, v1, v2, v3] ∧ Blk (pStoreV W bp bi be v0 v1 v2 v3 i e) bi 3 #[.int .i64 i] ∧ Blk (pStoreV W bp bi be v0 v1 v2 v3 i e) be 35 #[.int .i64 e] ∧ ∀ base q, PltOwn W base q → PltOwn (pStoreV W bp bi be v0 v1 v2 v3 i e) base q := by
  obtain ⟨S1, S2⟩ := store4 hp v0 v1 v2 v3
  have hW : B ≤ W.heap.size := Nat.le_trans hn.1 (Nat.le_of_lt hp.lt)
  have o1 : ∀ base q, PltOwn W base q → PltOwn ((((W.setCell ⟨bp, 0, none⟩ v0).setCell ⟨bp, 1, none⟩ v1).setCell ⟨bp, 2, none⟩ v2).setCell ⟨bp, 3, none⟩ v3) base q := fun base q h => h.farT S2 hp (by decide) (by decide) (by decide) (by decide)
  unfold pStoreV
  generalize ((((W.setCell ⟨bp, 0, none⟩ v0).setCell ⟨bp, 1, none⟩ v1).setCell ⟨bp, 2, none⟩ v2).setCell ⟨bp, 3, none⟩ v3) = W1 at S1 S2 o1
  have i1 := Blk.kept hi S2 (fun h => blk_ne hi hp (by decide) (Option.some.inj h))
  have e1 := Blk.kept he S2 (fun h => blk_ne he hp (by decide) (Option.some.inj h))
  have g2 := only_setCell (World.grownBy.refl W1 (some bi)) (p := ⟨bi, 0, none⟩) rfl (.int .i64 i)
  have i2 : Blk (W1.setCell ⟨bi, 0, none⟩ (.int .i64 i)) bi 3 #[.int .i64 i] := by simpa using i1.set_ 0 (.int .i64 i)
  have p2 := Blk.kept S1 g2 (fun h => blk_ne S1 i1 (by decide) (Option.some.inj h))
  have e2 := Blk.kept e1 g2 (fun h => blk_ne e1 i1 (by decide) (Option.some.inj h))
  have b1 := hl.grown S2 hW (fun k h => by cases h; exact hn.1)
  have b2 := b1.grown g2 (Nat.le_trans hW S2.size) (fun k h => by cases h; exact hn.2.1)
  have o2 : ∀ base q, PltOwn W base q → PltOwn (W1.setCell ⟨bi, 0, none⟩ (.int .i64 i)) base q := fun base q h => (o1 base q h).farT g2 i1 (by decide) (by decide) (by decide) (by decide)
  generalize W1.setCell ⟨bi, 0, none⟩ (.int .i64 i) = W2 at g2 i2 p2 e2 b2 o2
  have g3 := only_setCell (World.grownBy.refl W2 (some be)) (p := ⟨be, 0, none⟩) rfl (.int .i64 e)
  have e3 : Blk (W2.setCell ⟨be, 0, none⟩ (.int .i64 e)) be 35 #[.int .i64 e] := by simpa using e2.set_ 0 (.int .i64 e)
  exact ⟨b2.grown g3 (Nat.le_trans (Nat.le_trans hW S2.size) g2.size) (fun k h => by cases h; exact hn.2.2), Blk.kept p2 g3 (fun h => blk_ne p2 e2 (by decide) (Option.some.inj h)), Blk.kept i2 g3 (fun h => blk_ne i2 e2 (by decide) (Option.some.inj h)), e3, fun base q h => (o2 base q h).farT g3 e2 (by decide) (by decide) (by decide) (by decide)⟩
structure PrR (w : World) (gr bp bi be i : Nat) (W : World) : Prop where
  low : Below w.heap.size w W
  rdr : Gone W gr i
  b1 : ∃ c0 c1 c2 c3, Blk W bp 26 #[c0, c1, c2, c3]
  b2 : ∃ c4, Blk W bi 3 #[c4]
  b3 : ∃ c5, Blk W be 35 #[c5]
theorem PrR.store {w : World} {gr bp bi be i b : Nat} {W W' : World} {T : TypeId} {cs : Array Value} (h : PrR w gr bp bi be i W) (hb0 : w.heap.size ≤ b) (hk : W.grownBy W' (some b)) (hb : Blk W b T cs) (hT : T ≠ 128)
    (h1 : ∃ c0 c1 c2 c3, Blk W' bp 26 #[c0, c1, c2, c3]) (h2 : ∃ c4, Blk W' bi 3 #[c4]) (h3 : ∃ c5, Blk W' be 35 #[c5]) : PrR w gr bp bi be i W' := by
  obtain ⟨c0, c1, c2, c3, c4, c5, c7, hr⟩ := h.rdr
  exact ⟨h.low.grown hk h.low.size (fun k e => by cases e; exact hb0), ⟨c0, c1, c2, c3, c4, c5, c7, Blk.kept hr hk (fun e => blk_ne hr hb (Ne.symm hT) (Option.some.inj e))⟩, h1, h2, h3⟩
def prPhi (gr bp bi be i : Nat) (c : Int) : Nat → Value → World → (Nat → Nat) → Prop
  | 0, v, _, _ => v = .agg #[.int .i64 0, .slice none 0 0, .slice none 0 0, .slice none 0 0]
  | 1, v, _, _ => v = .pointer (some ⟨gr, 6, none⟩)
  | 2, v, _, _ => v = .int .i64 i
  | 3, v, _, _ => v = .int .i64 c
  | 4, _, W, _ => Blk W bp 26 #[.int .i64 0, .slice none 0 0, .slice none 0 0, .slice none 0 0]
  | 5, _, W, _ => Blk W bi 3 #[.int .i64 i]
  | 6, _, W, _ => Blk W be 35 #[.int .i64 c]
  | _, _, _, _ => True
theorem prPhi_store {gr bp bi be i b : Nat} {c : Int} {W W' : World} {γ γ' : Nat → Nat} {T : TypeId} {cs : Array Value} (hk : W.grownBy W' (some b)) (hb : Blk W b T cs) (j : Nat) (v : Value) (h4 : j = 4 → T ≠ 26) (h5 : j = 5 → T ≠ 3) (h6 : j = 6 → T ≠ 35) (hv : prPhi gr bp bi be i c j v W γ) : prPhi gr bp bi be i c j v W' γ' := by
  unfold prPhi at hv ⊢
  split at hv <;> first | exact hv | trivial | exact Blk.kept hv hk (fun e => blk_ne hv hb (Ne.symm (h4 rfl)) (Option.some.inj e)) | exact Blk.kept hv hk (fun e => blk_ne hv hb (Ne.symm (h5 rfl)) (Option.some.inj e)) | exact Blk.kept hv hk (fun e => blk_ne hv hb (Ne.symm (h6 rfl)) (Option.some.inj e))
/-- A plant of so much content. -/
def PlD.plt (d : PlD) : Plt := ⟨d.buses, none, d.srcs.length, 0, none, d.lnks.length, 0, none, d.rcks.length, 0, d.srcs, d.lnks.map (fun x => ⟨x.a, x.b, x.kind, x.most, x.ohm, none, x.trip.length, 0, x.trip⟩), d.rcks⟩
/-- What Check says of a plant's content. -/
def checkD (d : PlD) : Int := check d.plt
theorem check_data {q : Plt} (h : PlLens q) : check q = checkD q.data := by
  unfold checkD check
  have h1 : srcsOk q = srcsOk q.data.plt := rfl
  have h3 : rcksOk q = rcksOk q.data.plt := rfl
  have h2 : lnksOk q = lnksOk q.data.plt := by
    unfold lnksOk
    simp only [PlD.plt, Plt.data, List.map_map, List.length_map, List.all_map]
    congr 1
    rw [Bool.eq_iff_iff, List.all_eq_true, List.all_eq_true]
    constructor
    · intro hx x hm
      have h4 := hx x hm
      have h5 := h.trip x hm
      simpa [lnkOk, Lnk.data, h5] using h4
    · intro hx x hm
      have h4 := hx x hm
      have h5 := h.trip x hm
      simpa [lnkOk, Lnk.data, h5] using h4
  rw [h1, h2, h3]
  rfl
theorem row_max {W : World} {n₀ size n : Nat} {e : TypeId} {v : Value} {xs : List Value} (h : W.ownsRow n₀ e size v n xs) : n ≤ 9223372036854775807 := by
  rcases h.2 with ⟨_, h1⟩ | ⟨g, cap, cur, _, _, _, h1, h2, _⟩
  · omega
  · simp only [maxLen] at h2
    omega
theorem PltOwn.inn {W : World} {base : Nat} {q : Plt} (h : PltOwn W base q) (hl : PlLens q) : PltIn W W.heap.size q := by
  have hlk := h.lnk.1
  rw [hl.lnk] at hlk
  exact ⟨rd_row (fun _ _ => rfl) hl.src h.src, rd_row (fun _ _ => rfl) hl.lnk hlk, rd_row (fun _ _ => rfl) hl.rck h.rck, fun y hy => rd_row (fun _ _ => rfl) (hl.trip y hy) (h.lnk.2 y hy), row_max h.src, row_max hlk, row_max h.rck, fun y hy => row_max (h.lnk.2 y hy)⟩
/-- What Parse answers. -/
def parseR (t : List UInt8) : Int × Int × Option PlD :=
  if 131072 < t.length then (2, 0, none)
  else match parseL t with
    | (i, none) => (3, (i : Int), none)
    | (i, some s) => if checkD s.d = 0 then (0, 0, some s.d) else (checkD s.d, (s.index : Int), none)
def ParseIs (W : World) (base : Nat) (e : Ending) : Int × Int × Option PlD → Prop
  | (_, _, some d) => ∃ q : Plt, e = .returned (.tuple #[q.val, .int .i64 0, .int .i64 0]) ∧ PltOwn W base q ∧ PlLens q ∧ q.data = d
  | (c, i, none) => e = .returned (.tuple #[.agg #[.int .i64 0, .slice none 0 0, .slice none 0 0, .slice none 0 0], .int .i64 i, .int .i64 c])
set_option maxRecDepth 100000 in
set_option maxHeartbeats 8000000 in
theorem parse_any (t : List UInt8) (w : World) (ht : t.length ≤ 9223372036854775807) (hT : Tabs w) :
    Calls Tryz.prog 23 #[.string (ba t)] w fun e w' => Below w.heap.size w w' ∧ ParseIs w' w.heap.size e (parseR t) := by
  have hmf : ∀ (fn : Fn) (first cap : Array Value) (w : World), (Instr.makeFunc fn first cap).run Tryz.prog w = .ok (.func fn first cap) w := fun _ _ _ _ => rfl
  have HT := Lib.hid hT
  have hsz : (ba t).size = t.length := ba_len t
  clear hT
  by_cases hbig : 131072 < t.length
  · have hb : decide ((131072 : Int) < ((ba t).size : Int)) = true := decide_eq_true (by rw [hsz]; omega)
    have key : Hid (parseR t = (2, 0, none)) := Lib.hid (by unfold parseR; rw [if_pos hbig])
    go_enter_defers Tryz.func23, Tryz.ntmps23
    go_wp2
    simp [bodyPostD, Leaves, settle, results, Tryz.results23, go_sem]
    refine ⟨by (repeat' (first | (with_reducible exact Below.refl _ _) | (with_reducible assumption) | (with_reducible refine below_drewN ?_ _) | (with_reducible refine below_after (by assumption) ?_ ?_) | (with_reducible refine Below.drew ?_) | (with_reducible refine Below.alloc ?_ ?_ _) | (with_reducible refine Below.setCell ?_ ?_ _) | omega | (simp; omega) | (simp; done))), ?_⟩
    rw [key.out]
    exact rfl
  · have hb : decide ((131072 : Int) < ((ba t).size : Int)) = false := decide_eq_false (by rw [hsz]; omega)
    obtain ⟨wa, hwa⟩ : ∃ x, ((w.alloc (.cells #[.int .i64 0, .slice none 0 0, .slice none 0 0, .slice none 0 0] 26)).alloc (.cells #[.int .i64 0] 3)).alloc (.cells #[.int .i64 0] 35) = x := ⟨_, rfl⟩
    have HZA : Hid (wa.heap.size = w.heap.size + 3) := Lib.hid (by rw [← hwa]; simp)
    have hBa : Below w.heap.size w wa := by rw [← hwa]; (repeat' (first | (with_reducible exact Below.refl _ _) | (with_reducible assumption) | (with_reducible refine below_drewN ?_ _) | (with_reducible refine below_after (by assumption) ?_ ?_) | (with_reducible refine Below.drew ?_) | (with_reducible refine Below.alloc ?_ ?_ _) | (with_reducible refine Below.setCell ?_ ?_ _) | omega | (simp; omega) | (simp; done)))
    have BX : Hid (Blk wa w.heap.size 26 #[.int .i64 0, .slice none 0 0, .slice none 0 0, .slice none 0 0] ∧ Blk wa (w.heap.size + 1) 3 #[.int .i64 0] ∧ Blk wa (w.heap.size + 1 + 1) 35 #[.int .i64 0]) := by
      rw [← hwa]
      refine Lib.hid ⟨Blk.alloc (Blk.alloc (heap_alloc_new w _) _) _, Blk.alloc ?_ _, ?_⟩
      · have h := heap_alloc_new (w.alloc (.cells #[.int .i64 0, .slice none 0 0, .slice none 0 0, .slice none 0 0] 26)) (.cells #[.int .i64 0] 3)
        rw [World.size_alloc] at h
        exact h
      · have h := heap_alloc_new ((w.alloc (.cells #[.int .i64 0, .slice none 0 0, .slice none 0 0, .slice none 0 0] 26)).alloc (.cells #[.int .i64 0] 3)) (.cells #[.int .i64 0] 35)
        rw [World.size_alloc, World.size_alloc] at h
        exact h
    have HTA : Hid (Tabs wa) := Lib.hid (HT.out.next hBa)
    have HBA := Lib.hid hBa
    clear hBa
    go_enter_defers Tryz.func23, Tryz.ntmps23
    go_wp2_with fail
    clear hwa
    refine (sourceWords_any _).mono ?_
    rintro e w1 ⟨rfl, hB1, hm1⟩
    have H1 := Lib.hid (And.intro hB1 hm1)
    clear hB1 hm1
    go_wp2_with fail
    refine (turnedS_any _ _ H1.out.2).mono ?_
    rintro e w2 ⟨rfl, hB2, hk2⟩
    have H2 := Lib.hid (And.intro hB2 hk2)
    clear hB2 hk2
    go_wp2_with fail
    refine (linkWords_any _).mono ?_
    rintro e w3 ⟨rfl, hB3, hm3⟩
    have H3 := Lib.hid (And.intro hB3 hm3)
    clear hB3 hm3
    go_wp2_with fail
    refine (turnedL_any _ _ H3.out.2).mono ?_
    rintro e w4 ⟨rfl, hB4, hk4⟩
    obtain ⟨hB1, hm1⟩ := H1.out
    obtain ⟨hB2, hk2⟩ := H2.out
    obtain ⟨hB3, hm3⟩ := H3.out
    have L4 : Hid (Below wa.heap.size wa w4) := Lib.hid (hB1.trans ((hB2.mono hB1.size).trans ((hB3.mono (Nat.le_trans hB1.size hB2.size)).trans (hB4.mono (Nat.le_trans hB1.size (Nat.le_trans hB2.size hB3.size))))))
    have R4 : Hid (RdrAt (w4.alloc (.cells #[.map (some w1.heap.size), .map (some w3.heap.size), .int .i64 0, .slice none 0 0, .slice none 0 0, .slice none 0 0, .int .i64 0, .int .i64 0] 128)) wa.heap.size w4.heap.size RdS.zero) := by
      have hb := (Below.refl w4.heap.size w4).alloc (Nat.le_refl _) (.cells #[.map (some w1.heap.size), .map (some w3.heap.size), .int .i64 0, .slice none 0 0, .slice none 0 0, .slice none 0 0, .int .i64 0, .int .i64 0] 128)
      exact Lib.hid ⟨w1.heap.size, w3.heap.size, ⟨0, none, 0, 0, none, 0, 0, none, 0, 0, [], [], []⟩, ⟨heap_alloc_new w4 _, ((hk2.next hB3).next hB4).next hb, hk4.next hb, ⟨World.ownsRow_nil _ _ _ _, ⟨World.ownsRow_nil _ _ _ _, fun y hy => by simp at hy⟩, World.ownsRow_nil _ _ _ _⟩, ⟨rfl, rfl, rfl, fun y hy => by simp at hy⟩⟩, rfl⟩
    clear hB1 hB2 hB3 hB4 hm1 hm3 hk2 hk4
    go_wp2_with fail
    have LW : Hid (wa.heap.size ≤ w4.heap.size) := Lib.hid L4.out.size
    have HBR : Hid (Below wa.heap.size wa (w4.alloc (.cells #[.map (some w1.heap.size), .map (some w3.heap.size), .int .i64 0, .slice none 0 0, .slice none 0 0, .slice none 0 0, .int .i64 0, .int .i64 0] 128))) := Lib.hid (L4.out.alloc L4.out.size _)
    refine (lines_any wa w4.heap.size t _ (by omega) HTA.out HBR.out R4.out LW.out).mono ?_
    rintro e w5 ⟨hB5, hE⟩
    have HB5 := Lib.hid hB5
    obtain ⟨gr, hgr⟩ : ∃ z, z = w4.heap.size := ⟨_, rfl⟩
    have BX5 : Hid (Blk w5 w.heap.size 26 #[.int .i64 0, .slice none 0 0, .slice none 0 0, .slice none 0 0] ∧ Blk w5 (w.heap.size + 1) 3 #[.int .i64 0] ∧ Blk w5 (w.heap.size + 1 + 1) 35 #[.int .i64 0]) := Lib.hid ⟨BX.out.1.below hB5 BX.out.1.lt, BX.out.2.1.below hB5 BX.out.2.1.lt, BX.out.2.2.below hB5 BX.out.2.2.lt⟩
    have HGR : Hid (w.heap.size + 3 ≤ gr) := Lib.hid (by rw [hgr, ← HZA.out]; exact LW.out)
    have HBW : Hid (Below w.heap.size w w5) := Lib.hid (HBA.out.trans (hB5.mono HBA.out.size))
    rw [← hgr] at hE ⊢
    clear hB5 hgr
    cases hp : (parseL t).2 with
    | none =>
      rw [hp] at hE
      obtain ⟨rfl, c0, c1, c2, c3, c4, c5, c7, hGo⟩ := hE
      have key : Hid (parseR t = (3, ((parseL t).1 : Int), none)) := Lib.hid (by
        unfold parseR
        rw [if_neg hbig]
        obtain ⟨i, r, hpl⟩ : ∃ i r, parseL t = (i, r) := ⟨_, _, rfl⟩
        rw [hpl] at hp ⊢
        subst hp
        rfl)
      have HGo := Lib.hid hGo
      have hcl : w5.cell? ⟨gr, 6, none⟩ = some (.int .i64 (parseL t).1) := hGo.cell 6
      have HC := Lib.hid hcl
      clear hGo hcl
      go_wp2_with fail
      refine leaves_cons (f := 63) (args := #[.pointer (some ⟨gr, 0, none⟩), .pointer (some ⟨w.heap.size, 0, none⟩), .pointer (some ⟨w.heap.size + 1, 0, none⟩), .pointer (some ⟨w.heap.size + 1 + 1, 0, none⟩)]) (by simp) (by simp [go_sem]) ?_
      refine (catch_panic gr w.heap.size (w.heap.size + 1) (w.heap.size + 1 + 1) _ _ _ _ _ _ _ _ _ [] w5 HC.out BX5.out.1 BX5.out.2.1 BX5.out.2.2 (by have := HGR.out; omega)).mono ?_
      rintro e u' w'' ⟨rfl, rfl, hw''⟩
      obtain ⟨P1, P2, P3, P4, _⟩ := pStore_is (B := w.heap.size) BX5.out.1 BX5.out.2.1 BX5.out.2.2 (by omega) (Nat.le_refl _) HBW.out (.int .i64 0) (.slice none 0 0) (.slice none 0 0) (.slice none 0 0) ((parseL t).1 : Int) 3
      rw [show pStoreV w5 _ _ _ _ _ _ _ _ _ = w'' from hw''.symm] at P1 P2 P3 P4
      have a0 := P2.cell 0
      have a1 := P2.cell 1
      have a2 := P2.cell 2
      have a3 := P2.cell 3
      have a4 := P3.cell 0
      have a5 := P4.cell 0
      clear hw''
      simp [Leaves, settle, results, Tryz.results23, go_sem, a0, a1, a2, a3, a4, a5]
      exact ⟨P1, by rw [key.out]; exact rfl⟩
    | some s =>
      rw [hp] at hE
      obtain ⟨rfl, ms, ml, q, hI, hd⟩ := hE
      have HI := Lib.hid hI
      have d2 := hI.cells.2.2.1
      have d3 := hI.cells.2.2.2.1
      have d4 := hI.cells.2.2.2.2.1
      have d5 := hI.cells.2.2.2.2.2.1
      have CK := Lib.hid (fun W h => check_any q W h)
      have hcq : check q = checkD s.d := by rw [check_data hI.lens, hd]
      rw [hcq] at CK
      have hpl : ∃ i, parseL t = (i, some s) := ⟨(parseL t).1, by rw [← hp]⟩
      have key : Hid (parseR t = if checkD s.d = 0 then (0, 0, some s.d) else (checkD s.d, (s.index : Int), none)) := Lib.hid (by
        obtain ⟨i, hpl⟩ := hpl
        unfold parseR
        rw [if_neg hbig, hpl])
      clear hI hcq hpl hp
      unfold Plt.val at CK
      go_wp2_with fail
      refine (CK.out _ (HI.out.own.inn HI.out.lens)).mono ?_
      rintro e w6 ⟨rfl, hB6⟩
      have HI6 := Lib.hid (HI.out.next hB6)
      have HBW6 := Lib.hid (HBW.out.trans (hB6.mono HBW.out.size))
      have BX6 : Hid (Blk w6 w.heap.size 26 #[.int .i64 0, .slice none 0 0, .slice none 0 0, .slice none 0 0] ∧ Blk w6 (w.heap.size + 1) 3 #[.int .i64 0] ∧ Blk w6 (w.heap.size + 1 + 1) 35 #[.int .i64 0]) := Lib.hid ⟨BX5.out.1.below hB6 BX5.out.1.lt, BX5.out.2.1.below hB6 BX5.out.2.1.lt, BX5.out.2.2.below hB6 BX5.out.2.2.lt⟩
      clear hB6 d2 d3 d4 d5
      obtain ⟨c, hc⟩ : ∃ z, z = checkD s.d := ⟨_, rfl⟩
      rw [← hc] at key ⊢
      by_cases h0 : c = 0
      · rw [if_pos h0] at key
        rw [h0]
        have d2 := HI6.out.cells.2.2.1
        have d3 := HI6.out.cells.2.2.2.1
        have d4 := HI6.out.cells.2.2.2.2.1
        have d5 := HI6.out.cells.2.2.2.2.2.1
        have e0 := BX6.out.1.cell 0
        have e1 := BX6.out.1.cell 1
        have e2 := BX6.out.1.cell 2
        have e3 := BX6.out.1.cell 3
        have e4 := BX6.out.2.1.cell 0
        have e5 := BX6.out.2.2.cell 0
        have f0 := BX6.out.1.frozen
        have f1 := BX6.out.2.1.frozen
        have f2 := BX6.out.2.2.frozen
        clear hc h0
        go_wp2
        obtain ⟨P1, P2, P3, P4, P5⟩ := pStore_is (B := w.heap.size) BX6.out.1 BX6.out.2.1 BX6.out.2.2 (by omega) (Nat.le_refl _) HBW6.out (.int .i64 q.buses) (.slice q.sA q.sn q.sc) (.slice q.lA q.ln q.lc) (.slice q.rA q.rn q.rc) 0 0
        change bodyPostD _ _ _ _ _ (pStoreV w6 w.heap.size (w.heap.size + 1) (w.heap.size + 1 + 1) (.int .i64 q.buses) (.slice q.sA q.sn q.sc) (.slice q.lA q.ln q.lc) (.slice q.rA q.rn q.rc) 0 0)
        generalize pStoreV w6 w.heap.size (w.heap.size + 1) (w.heap.size + 1 + 1) (.int .i64 q.buses) (.slice q.sA q.sn q.sc) (.slice q.lA q.ln q.lc) (.slice q.rA q.rn q.rc) 0 0 = w7 at P1 P2 P3 P4 P5 ⊢
        refine leaves_cons (f := 63) (args := #[.pointer (some ⟨gr, 0, none⟩), .pointer (some ⟨w.heap.size, 0, none⟩), .pointer (some ⟨w.heap.size + 1, 0, none⟩), .pointer (some ⟨w.heap.size + 1 + 1, 0, none⟩)]) (by simp) (by simp [go_sem]) ?_
        refine (catch_idle _ _ _ _ _).mono ?_
        rintro e u' w'' ⟨rfl, rfl, rfl⟩
        have a0 := P2.cell 0
        have a1 := P2.cell 1
        have a2 := P2.cell 2
        have a3 := P2.cell 3
        have a4 := P3.cell 0
        have a5 := P4.cell 0
        simp [Leaves, settle, results, Tryz.results23, go_sem, a0, a1, a2, a3, a4, a5]
        refine ⟨P1, ?_⟩
        rw [key.out]
        exact ⟨q, rfl, (P5 _ _ HI6.out.own).down (by have := HZA.out; omega), HI6.out.lens, hd⟩
      · rw [if_neg h0] at key
        have hcn : (c == 0) = false := beq_eq_false_iff_ne.2 h0
        clear hc h0
        go_wp2_with fail
        refine wp_region_free9p 6 (by kernel_rfl) [some 24, some 25, some 26, some 27, none, none, none] [[], [], [1], [], [0, 0], [2, 4, 0, 1, 2, 4], [3, 5, 0, 1, 2, 3, 4, 5]] [(2, .pointer (some ⟨w.heap.size, 0, none⟩)), (3, .pointer (some ⟨w.heap.size + 1, 0, none⟩)), (4, .pointer (some ⟨w.heap.size + 1 + 1, 0, none⟩)), (5, .pointer (some ⟨gr, 0, none⟩)), (6, .int .i64 c)] (fun W _ => PrR w gr w.heap.size (w.heap.size + 1) (w.heap.size + 1 + 1) s.index W) (prPhi gr w.heap.size (w.heap.size + 1) (w.heap.size + 1 + 1) s.index c) (fun _ _ _ => True) (by kernel_rfl) (by kernel_rfl) rfl (by kernel_rfl) ?_ ?_ ⟨fun _ => 0, ⟨HBW6.out.drew, HI6.out.gone, ⟨_, _, _, _, BX6.out.1⟩, ⟨_, BX6.out.2.1⟩, ⟨_, BX6.out.2.2⟩⟩, fun _ _ => trivial⟩ ?_ ?_
        · intro z hz
          simp only [List.mem_cons, List.mem_nil_iff, or_false] at hz
          rcases hz with rfl | rfl | rfl | rfl | rfl
          all_goals exact ⟨by kernel_rfl, rfl⟩
        · intro i v W γ hi h
          rcases i with _ | _ | _ | _ | _ | _ | _ | i
          all_goals first | exact h | (simp at hi)
        · refine ⟨?_, ?_, ?_, ?_, ?_, ?_, ?_, trivial⟩
          all_goals
            intro a W γ ev hcc hff hfx hdf hR hψ hpre
            simp only [List.mem_cons, List.mem_nil_iff, or_false, forall_eq, forall_eq_or_imp] at hfx
            obtain ⟨f0, f1, f2, f3, f4⟩ := hfx
            have t0 : W.cell? ⟨gr, 6, none⟩ = some (.int .i64 s.index) := by obtain ⟨c0, c1, c2, c3, c4, c5, c7, h⟩ := hR.rdr; exact h.cell 6
            have HR := Lib.hid hR
            have HD := Lib.hid hdf
            clear hR hdf
            refine ⟨fun _ K hK => ?_, trivial⟩
          · clear hpre hψ
            go_simp
            exact hK _ _ γ HR.out (fun _ _ _ _ h => h) (fun _ _ _ h => h) rfl
          · clear hpre hψ
            go_simp
            exact hK _ _ γ HR.out (fun _ _ _ _ h => h) (fun _ _ _ h => h) rfl
          · have q1 : ev (.tmp 25) = _ := hpre 1 (by decide)
            clear hpre hψ
            go_simp
            exact hK _ _ γ HR.out (fun _ _ _ _ h => h) (fun _ _ _ h => h) rfl
          · clear hpre hψ
            go_simp
            exact hK _ _ γ HR.out (fun _ _ _ _ h => h) (fun _ _ _ h => h) rfl
          · have q1 : ev (.tmp 24) = _ := hpre 0 (by decide)
            obtain ⟨c0, c1, c2, c3, hb⟩ := HR.out.b1
            have d0 : W.cell? ⟨w.heap.size, 0, none⟩ = some c0 := hb.cell 0
            have d1 : W.cell? ⟨w.heap.size, 1, none⟩ = some c1 := hb.cell 1
            have d2 : W.cell? ⟨w.heap.size, 2, none⟩ = some c2 := hb.cell 2
            have d3 : W.cell? ⟨w.heap.size, 3, none⟩ = some c3 := hb.cell 3
            have fz := hb.frozen
            obtain ⟨S1, S2⟩ := store4 hb (.int .i64 0) (.slice none 0 0) (.slice none 0 0) (.slice none 0 0)
            have HS1 := Lib.hid S1
            have HS2 := Lib.hid S2
            have HB := Lib.hid hb
            clear hpre hψ S1 S2 hb
            go_simp
            refine hK undef _ γ (HR.out.store (Nat.le_refl _) HS2.out HB.out (by decide) ⟨_, _, _, _, HS1.out⟩ ?_ ?_) (fun j u hx hne h => prPhi_store HS2.out HB.out j u (fun e => absurd e hne) (fun _ => by decide) (fun _ => by decide) h) (fun _ _ _ h => h) HS1.out
            · obtain ⟨c4, h4⟩ := HR.out.b2
              exact ⟨c4, Blk.kept h4 HS2.out (fun e => by have := Option.some.inj e; omega)⟩
            · obtain ⟨c5, h5⟩ := HR.out.b3
              exact ⟨c5, Blk.kept h5 HS2.out (fun e => by have := Option.some.inj e; omega)⟩
          · have q1 : ev (.tmp 26) = _ := hpre 2 (by decide)
            obtain ⟨c4, hb⟩ := HR.out.b2
            have d0 : W.cell? ⟨w.heap.size + 1, 0, none⟩ = some c4 := hb.cell 0
            have fz := hb.frozen
            have S2 := only_setCell (World.grownBy.refl W (some (w.heap.size + 1))) (p := ⟨w.heap.size + 1, 0, none⟩) rfl (.int .i64 (s.index))
            have S1 : Blk (W.setCell ⟨w.heap.size + 1, 0, none⟩ (.int .i64 (s.index))) (w.heap.size + 1) 3 #[.int .i64 (s.index)] := by simpa using hb.set_ 0 (.int .i64 (s.index))
            have HS1 := Lib.hid S1
            have HS2 := Lib.hid S2
            have HB := Lib.hid hb
            clear hpre hψ S1 S2 hb
            go_simp
            refine hK undef _ γ (HR.out.store (by omega) HS2.out HB.out (by decide) ?_ ?_ ?_) (fun j u hx hne h => prPhi_store HS2.out HB.out j u (fun _ => by decide) (fun e => absurd e hne) (fun _ => by decide) h) (fun _ _ _ h => h) HS1.out
            · obtain ⟨c0, c1, c2, c3, h4⟩ := HR.out.b1
              exact ⟨c0, c1, c2, c3, Blk.kept h4 HS2.out (fun e => by have := Option.some.inj e; omega)⟩
            · exact ⟨_, HS1.out⟩
            · obtain ⟨c5, h5⟩ := HR.out.b3
              exact ⟨c5, Blk.kept h5 HS2.out (fun e => by have := Option.some.inj e; omega)⟩
          · have q1 : ev (.tmp 27) = _ := hpre 3 (by decide)
            obtain ⟨c4, hb⟩ := HR.out.b3
            have d0 : W.cell? ⟨w.heap.size + 1 + 1, 0, none⟩ = some c4 := hb.cell 0
            have fz := hb.frozen
            have S2 := only_setCell (World.grownBy.refl W (some (w.heap.size + 1 + 1))) (p := ⟨w.heap.size + 1 + 1, 0, none⟩) rfl (.int .i64 (c))
            have S1 : Blk (W.setCell ⟨w.heap.size + 1 + 1, 0, none⟩ (.int .i64 (c))) (w.heap.size + 1 + 1) 35 #[.int .i64 (c)] := by simpa using hb.set_ 0 (.int .i64 (c))
            have HS1 := Lib.hid S1
            have HS2 := Lib.hid S2
            have HB := Lib.hid hb
            clear hpre hψ S1 S2 hb
            go_simp
            refine hK undef _ γ (HR.out.store (by omega) HS2.out HB.out (by decide) ?_ ?_ ?_) (fun j u hx hne h => prPhi_store HS2.out HB.out j u (fun _ => by decide) (fun _ => by decide) (fun e => absurd e hne) h) (fun _ _ _ h => h) HS1.out
            · obtain ⟨c0, c1, c2, c3, h4⟩ := HR.out.b1
              exact ⟨c0, c1, c2, c3, Blk.kept h4 HS2.out (fun e => by have := Option.some.inj e; omega)⟩
            · obtain ⟨c4, h4⟩ := HR.out.b2
              exact ⟨c4, Blk.kept h4 HS2.out (fun e => by have := Option.some.inj e; omega)⟩
            · exact ⟨_, HS1.out⟩
        · intro vs w' γ hvl hR hφ
          have P2 := hφ 4 (by decide)
          have P3 := hφ 5 (by decide)
          have P4 := hφ 6 (by decide)
          have HR := Lib.hid hR
          clear hφ hR
          match vs, hvl with
          | [y0, y1, y2, y3, y4, y5, y6], _ =>
          simp [putAll]
          go_wp2
          refine leaves_cons (f := 63) (args := #[.pointer (some ⟨gr, 0, none⟩), .pointer (some ⟨w.heap.size, 0, none⟩), .pointer (some ⟨w.heap.size + 1, 0, none⟩), .pointer (some ⟨w.heap.size + 1 + 1, 0, none⟩)]) (by simp) (by simp [go_sem]) ?_
          refine (catch_idle _ _ _ _ _).mono ?_
          rintro e u' w'' ⟨rfl, rfl, rfl⟩
          have a0 := Blk.cell P2 0
          have a1 := Blk.cell P2 1
          have a2 := Blk.cell P2 2
          have a3 := Blk.cell P2 3
          have a4 := Blk.cell P3 0
          have a5 := Blk.cell P4 0
          simp [Leaves, settle, results, Tryz.results23, go_sem, a0, a1, a2, a3, a4, a5]
          exact ⟨HR.out.low, by rw [key.out]; exact rfl⟩
end Go.Proofs.YtcnmfblbfpcghaaGreatDoor
