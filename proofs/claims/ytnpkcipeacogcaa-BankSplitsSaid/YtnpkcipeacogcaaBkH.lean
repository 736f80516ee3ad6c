/- bank: lack, Trace's rows. -/
import Derived.Test.YtnpkcipeacogcaaBkG

set_option linter.unusedSimpArgs false
set_option linter.unusedVariables false
namespace Go.Proofs.Ytnpkcipeacogcaa
open Go.RowKit

set_option maxRecDepth 100000 in
set_option maxHeartbeats 4000000 in
theorem lack_any (bA gA lA fA : Option Addr) (bn bc gn gc ln lc fn fc : Nat) (bs : List Bat) (gs : List Gen) (l : List Spn) (fs : List Int) (w : World)
    (hin : ArgsIn w w.heap.size bA bn bs gA gn gs lA ln l) (hf : Rd w w.heap.size 1 encI fA fn fs) (ok : ArgsOk bs gs l) (okf : FailsOk gs fs) :
    Calls Try.prog 37 #[.agg #[.slice bA bn bc, .slice gA gn gc], .slice lA ln lc, .slice fA fn fc] w fun e w' => e = .returned (.int .i64 (anyL 0 (ply0 bs gs fs) (secsL l)).lacking) ∧ Below w.heap.size w w' := by
  have HIN := Lib.hid hin
  have HF := Lib.hid hf
  have OK := Lib.hid ok
  have OKF := Lib.hid okf
  have hbn : bn ≤ 100 := by have := ok.nb; have := hin.bat.1; omega
  have hgn : gn ≤ 100 := by have := ok.ng; have := hin.gen.1; omega
  have hln : ln ≤ 100 := by have := ok.nl; have := hin.load.1; omega
  have hfn : fn = gn := by have := okf.1; have := hin.gen.1; have := hf.1; omega
  have KN := Lib.hid (fun W (hb : BankIn W W.heap.size bA bn bs gA gn gs) (hf : Rd W W.heap.size 1 encI fA fn fs) => newPlay_any bA gA fA bn bc gn gc fn fc bs gs fs W hb hf hbn hgn hfn ok.gen (okf.bd ok.gen))
  obtain ⟨p0, hp0⟩ : ∃ z, z = ply0 bs gs fs := ⟨_, rfl⟩
  have HOK0 : Hid (PlyOk 0 p0) := Lib.hid (by rw [hp0]; exact ply0_ok ok.bat ok.gen (okf.bd ok.gen))
  rw [← hp0] at KN ⊢
  obtain ⟨p, hp⟩ : ∃ z, z = anyL 0 p0 (secsL l) := ⟨_, rfl⟩
  have HP0 := Lib.hid hp
  rw [← hp]
  clear hin hf ok okf hp0 hp hfn
  go_enter Try.func37, Try.ntmps37
  go_wp2_with fail
  refine (KN.out _ ⟨HIN.out.bat.next (by (repeat' (first | (with_reducible exact Below.refl _ _) | (with_reducible assumption) | (with_reducible refine below_drewN ?_ _) | (with_reducible refine below_after (by assumption) ?_ ?_) | (with_reducible refine Below.drew ?_) | (with_reducible refine Below.alloc ?_ ?_ _) | (with_reducible refine Below.setCell ?_ ?_ _) | omega | (simp; omega) | (simp; done)))), HIN.out.gen.next (by (repeat' (first | (with_reducible exact Below.refl _ _) | (with_reducible assumption) | (with_reducible refine below_drewN ?_ _) | (with_reducible refine below_after (by assumption) ?_ ?_) | (with_reducible refine Below.drew ?_) | (with_reducible refine Below.alloc ?_ ?_ _) | (with_reducible refine Below.setCell ?_ ?_ _) | omega | (simp; omega) | (simp; done))))⟩ (HF.out.next (by (repeat' (first | (with_reducible exact Below.refl _ _) | (with_reducible assumption) | (with_reducible refine below_drewN ?_ _) | (with_reducible refine below_after (by assumption) ?_ ?_) | (with_reducible refine Below.drew ?_) | (with_reducible refine Below.alloc ?_ ?_ _) | (with_reducible refine Below.setCell ?_ ?_ _) | omega | (simp; omega) | (simp; done)))))).mono ?_
  rintro e w1 ⟨a, rfl, hP1, hB1, hm1⟩
  have HLW : Hid (Below w.heap.size w w1) := Lib.hid (((Below.refl w.heap.size w).alloc (Nat.le_refl _) _).trans (hB1.mono (by simp)))
  have HP1 := Lib.hid hP1
  have HM1 : Hid (∀ b, a.mine b → w.heap.size + 1 ≤ b) := Lib.hid (fun b hb => by have := hm1 b hb; simp at this; omega)
  have HML : Hid (∀ b, a.mine b → b < w1.heap.size) := Lib.hid (fun b hb => hP1.mine_lt hb)
  clear hP1 hm1
  unfold Adr.ptr
  have KT := Lib.hid (through_any 52 (enters_of Try.func52 (by kernel_rfl) rfl) #[a.ptr] #[] lA ln lc l (w.heap.size + 1) (AnyJ a p0) (fun _ _ => False) w1 ((HIN.out.load.below HLW.out).more (by omega)) hln OK.out.spn OK.out.len (by have := hB1.size; simp at this; omega) HP1.out (fun pre W o h => PlyIn.alloc h o) (fun pre x W hJ hp x0 x1 t ht => any_step HOK0.out OK.out.spn OK.out.len HM1.out pre x W hJ hp x0 x1 t ht))
  unfold Adr.ptr at KT
  go_wp2_with fail
  refine KT.out.mono ?_
  rintro e W1 ⟨rfl, hT, hK⟩
  have HP2 := any_thr hT
  rw [← HP0.out] at HP2
  have HP := Lib.hid HP2
  have hBl := hK.below (by have := hB1.size; simp at this; omega)
  have HLW2 : Hid (Below w.heap.size w W1) := Lib.hid (HLW.out.trans (hBl.mono (by omega)))
  have zp := HP2.head.1
  have c4 := HP2.head.2.2.2.2.2
  clear HP2 hB1
  clear hT hK KT KN hBl
  have HLW := HLW2
  go_wp2
  go_ret
  exact ⟨rfl, HLW.out⟩
theorem mine_ne {W : World} {a : Adr} {p : Ply} {b : Nat} {T : TypeId} {cs : Array Value} (hp : PlyIn W a p) (hb : Blk W b T cs) (h1 : T ≠ 89) (h2 : T ≠ 91) (h3 : T ≠ 94) : ¬ a.mine b := by
  intro hm
  rcases hm with rfl | ⟨h0, rfl⟩ | ⟨h0, rfl⟩
  · exact blk_ne hb hp.blk h1 rfl
  · rcases hp.cs with h | ⟨_, _, h, _⟩
    · have := hp.nc; rw [h] at this; simp at this; omega
    · exact blk_ne hb h h2 rfl
  · rcases hp.es with h | ⟨_, _, h, _⟩
    · have := hp.ne; rw [h] at this; simp at this; omega
    · exact blk_ne hb h h3 rfl
/-- Rows of numbers, each in a block of its own. -/
def RowsB (W : World) (base : Nat) (gl : List Nat) (rows : List (List Int)) : Prop := gl.length = rows.length ∧ ∀ (i g : Nat) (r : List Int), gl[i]? = some g → rows[i]? = some r → base ≤ g ∧ Blk W g 3 (intsA r)
def slV (nc g : Nat) : Value := .slice (some ⟨g, 0, none⟩) nc nc
theorem RowsB.kept {W W' : World} {base : Nat} {gl : List Nat} {rows : List (List Int)} (h : RowsB W base gl rows) (hk : ∀ g cs, Blk W g 3 cs → Blk W' g 3 cs) : RowsB W' base gl rows :=
  ⟨h.1, fun i g r h1 h2 => ⟨(h.2 i g r h1 h2).1, hk _ _ (h.2 i g r h1 h2).2⟩⟩
theorem RowsB.snoc {W : World} {base : Nat} {gl : List Nat} {rows : List (List Int)} {g : Nat} {r : List Int} (h : RowsB W base gl rows) (hg : base ≤ g) (hb : Blk W g 3 (intsA r)) : RowsB W base (gl ++ [g]) (rows ++ [r]) := by
  refine ⟨by simp [h.1], fun i g' r' h1 h2 => ?_⟩
  by_cases hi : i < gl.length
  · rw [List.getElem?_append_left hi] at h1
    rw [List.getElem?_append_left (by rw [← h.1]; exact hi)] at h2
    exact h.2 i g' r' h1 h2
  · rw [List.getElem?_append_right (by omega)] at h1
    rw [List.getElem?_append_right (by rw [← h.1]; omega)] at h2
    rw [← h.1] at h2
    match hj : i - gl.length with
    | 0 =>
      rw [hj] at h1 h2
      simp only [List.getElem?_cons_zero, Option.some.injEq] at h1 h2
      subst h1 h2
      exact ⟨hg, hb⟩
    | k + 1 =>
      rw [hj] at h1
      simp at h1
/-- What is owned for the rows. -/
def trS (v : Value) (lv b : Nat) : Prop := v.ownBlock = some b ∨ b = lv
def TrF (W1 : World) (lv : Nat) (v : Value) (W : World) : Prop := Keep (trS v lv) W1 W ∧ Blk W lv 44 #[v]
structure TrH (W1 : World) (base lv : Nat) (v : Value) (nc n : Nat) (xs : List Value) (en : List Int) (g' c' g : Nat) (W : World) : Prop where
  k : Keep (trS v lv) W1 W
  lb : Blk W lv 44 #[.slice (some ⟨g', 0, none⟩) (n + 1) c']
  row : W.ownsRow base 30 1 (.slice (some ⟨g', 0, none⟩) (n + 1) c') (n + 1) (xs ++ [.slice (some ⟨g, 0, none⟩) nc nc])
  hg : base ≤ g
  gb : Blk W g 3 (intsA en)
def TrG (W1 : World) (base lv : Nat) (v : Value) (nc n : Nat) (xs : List Value) (en : List Int) (W : World) : Prop := ∃ g' c' g, TrH W1 base lv v nc n xs en g' c' g W
section
variable {W1 W W' : World} {base lv nc n g g' c' : Nat} {v : Value} {xs : List Value} {en : List Int}
theorem trF_next (h : TrF W1 lv v W) (hb : Below W.heap.size W W') : TrF W1 lv v W' := ⟨h.1.trans (Keep.of_below hb), h.2.below hb h.2.lt⟩
theorem trF_grown {m k : Nat} {ys : List Value} (h : TrF W1 lv v W) (hr : W.ownsRow m 30 1 v k ys) (hg : W.grownBy W' v.ownBlock) : TrF W1 lv v W' := by
  refine ⟨⟨hg.os.trans h.1.os, hg.tape.trans h.1.tape, hg.output.trans h.1.output, Nat.le_trans h.1.size hg.size, fun k hk hs => ?_⟩, h.2.kept hg (own_ne hr h.2 (by decide))⟩
  have h1 := h.1.size
  exact (hg.block k (by omega) (fun e => hs (Or.inl e.symm))).trans (h.1.block k hk hs)
theorem trF_store (h : TrF W1 lv v W) (hr : W.ownsRow base 30 1 (.slice (some ⟨g', 0, none⟩) (n + 1) c') (n + 1) (xs ++ [.slice (some ⟨g, 0, none⟩) nc nc])) (hg : base ≤ g) (hN : Blk W g 3 (intsA en)) :
    TrH W1 base lv v nc n xs en g' c' g (W.setCell ⟨lv, 0, none⟩ (.slice (some ⟨g', 0, none⟩) (n + 1) c')) := by
  have hs := grown_set W lv 0 (.slice (some ⟨g', 0, none⟩) (n + 1) c')
  exact ⟨h.1.setCell (Or.inr rfl) _, h.2.set_ 0 _, hr.kept hs (Or.inr (fun e => own_ne hr h.2 (by decide) e.symm)), hg, hN.far (blk_ne hN h.2 (by decide)) _⟩
end
def trPhi (z1 base bp nc n : Nat) (rA : Option Addr) (rc : Nat) (xs : List Value) (en : List Int) : Nat → Value → World → (Nat → Nat) → Prop
  | 0, v, _, _ => v = .slice rA n rc
  | 1, v, _, _ => v = .pointer (some ⟨bp, 0, none⟩)
  | 2, v, W, γ => ∃ g, v = .slice (some ⟨g, 0, none⟩) nc nc ∧ z1 ≤ g ∧ (γ 0 = 0 → Blk W g 3 (intsA en))
  | 3, v, W, γ => ∃ B g, v = .slice (some ⟨B, 0, none⟩) 1 1 ∧ (γ 0 = 0 → Blk W B 30 #[.slice (some ⟨g, 0, none⟩) nc nc] ∧ (Value.slice rA n rc).ownBlock ≠ some B ∧ z1 ≤ g ∧ Blk W g 3 (intsA en))
  | 4, v, W, γ => ∃ g' c' g, v = .slice (some ⟨g', 0, none⟩) (n + 1) c' ∧ γ 0 ≠ 0 ∧ (γ 0 = 2 ∨ (W.ownsRow base 30 1 (.slice (some ⟨g', 0, none⟩) (n + 1) c') (n + 1) (xs ++ [.slice (some ⟨g, 0, none⟩) nc nc]) ∧ base ≤ g ∧ Blk W g 3 (intsA en)))
  | 5, _, _, γ => γ 0 = 2
  | _, _, _, _ => True
section
variable {z1 base bp nc n rc i : Nat} {rA : Option Addr} {xs : List Value} {en : List Int} {W W' : World} {γ : Nat → Nat} {v : Value}
theorem trPhi_next (hb : Below W.heap.size W W') (h : trPhi z1 base bp nc n rA rc xs en i v W γ) : trPhi z1 base bp nc n rA rc xs en i v W' γ := by
  unfold trPhi at h ⊢
  split at h
  all_goals first | exact h | trivial | skip
  · obtain ⟨g, h1, h2, h3⟩ := h
    exact ⟨g, h1, h2, fun h0 => (h3 h0).below hb (h3 h0).lt⟩
  · obtain ⟨B, g, h1, h2⟩ := h
    exact ⟨B, g, h1, fun h0 => ⟨(h2 h0).1.below hb (h2 h0).1.lt, (h2 h0).2.1, (h2 h0).2.2.1, (h2 h0).2.2.2.below hb (h2 h0).2.2.2.lt⟩⟩
  · obtain ⟨g', c', g, h1, h2, h3⟩ := h
    exact ⟨g', c', g, h1, h2, h3.imp id fun h => ⟨row_next h.1 hb, h.2.1, h.2.2.below hb h.2.2.lt⟩⟩
theorem trPhi_1 (h0 : γ 0 = 0) (hi : i ≠ 4) (h : trPhi z1 base bp nc n rA rc xs en i v W γ) : trPhi z1 base bp nc n rA rc xs en i v W' (fun _ => 1) := by
  unfold trPhi at h ⊢
  split at h
  all_goals first | exact h | trivial | exact absurd rfl hi | (exfalso; omega) | skip
  · obtain ⟨g, h1, h2, h3⟩ := h
    exact ⟨g, h1, h2, fun h0 => by cases h0⟩
  · obtain ⟨B, g, h1, h2⟩ := h
    exact ⟨B, g, h1, fun h0 => by cases h0⟩
theorem trPhi_2 (hi : i ≠ 5) (h : trPhi z1 base bp nc n rA rc xs en i v W γ) : trPhi z1 base bp nc n rA rc xs en i v W' (fun _ => 2) := by
  unfold trPhi at h ⊢
  split at h
  all_goals first | exact h | trivial | exact absurd rfl hi | skip
  · obtain ⟨g, h1, h2, h3⟩ := h
    exact ⟨g, h1, h2, fun h0 => by cases h0⟩
  · obtain ⟨B, g, h1, h2⟩ := h
    exact ⟨B, g, h1, fun h0 => by cases h0⟩
  · obtain ⟨g', c', g, h1, h2, h3⟩ := h
    exact ⟨g', c', g, h1, by decide, Or.inl rfl⟩
end
/-- The rows so far. -/
def TrR (W : World) (base lv nc : Nat) (rows : List (List Int)) : Prop := ∃ v gl, Blk W lv 44 #[v] ∧ W.ownsRow base 30 1 v gl.length (gl.map (slV nc)) ∧ RowsB W base gl rows
theorem TrR.keep {W W' : World} {base lv nc : Nat} {rows : List (List Int)} {a : Adr} {p : Ply} (h : TrR W base lv nc rows) (hp : PlyIn W a p) (hk : Keep a.mine W W') : TrR W' base lv nc rows := by
  obtain ⟨v, gl, h1, h2, h3⟩ := h
  refine ⟨v, gl, hk.blk h1 (mine_ne hp h1 (by decide) (by decide) (by decide)), ?_, h3.kept fun g cs hb => hk.blk hb (mine_ne hp hb (by decide) (by decide) (by decide))⟩
  refine ⟨h2.1, ?_⟩
  rcases h2.2 with hn | ⟨g, cap, cur, rfl, hb, hgg, rest⟩
  · exact .inl hn
  · exact .inr ⟨g, cap, cur, rfl, hb, hk.blk (show Blk W g _ cur from hgg) (mine_ne hp (show Blk W g _ cur from hgg) (by decide) (by decide) (by decide)), rest⟩
theorem TrR.alloc {W : World} {base lv nc : Nat} {rows : List (List Int)} (h : TrR W base lv nc rows) (o : Obj) : TrR (W.alloc o) base lv nc rows := by
  obtain ⟨v, gl, h1, h2, h3⟩ := h
  exact ⟨v, gl, h1.alloc o, h2.alloc o, h3.kept fun g cs hb => hb.alloc o⟩
def TrJ (base : Nat) (a : Adr) (p0 : Ply) (pv lv : Nat) (pre : List Int) (W : World) : Prop := RunJ a p0 pre W ∧ Blk W pv 69 #[a.ptr] ∧ TrR W base lv a.nc (traceL 0 p0 pre)
def TrX (base : Nat) (a : Adr) (p0 : Ply) (lv : Nat) (pre : List Int) (W : World) : Prop := ∃ p1 x, pre = p1 ++ [x] ∧ okL 0 p0 p1 ∧ okP p1.length (goL 0 p0 p1) x = false ∧ TrR W base lv a.nc (traceL 0 p0 p1)
theorem traceL_length : ∀ (l : List Int) (t : Int) (p : Ply), (traceL t p l).length ≤ l.length := by
  intro l
  induction l with
  | nil => intro t p; simp [traceL]
  | cons x l ih =>
    intro t p
    unfold traceL
    split
    · have := ih (t + 1) (goP t p x)
      simp only [List.length_cons]
      omega
    · simp
theorem rowInfo : (Try.prog.info? 30).map (fun i => (i.zero, i.size, i.bytes)) = some (some (.slice none 0 0), 1, 24) := by kernel_rfl
set_option maxRecDepth 100000 in
set_option maxHeartbeats 4000000 in
theorem trace_step {a : Adr} {p0 : Ply} {l : List Spn} {base pv lv : Nat} (h0 : PlyOk 0 p0) (hl : ∀ s ∈ l, SpnOk s) (hlen : (secsL l).length ≤ 20000) {B : Nat} (hBm : ∀ b, a.mine b → B ≤ b) (hBl : B ≤ lv) (hBb : B ≤ base) (pre : List Int) (x : Int) (W : World) (hJ : TrJ base a p0 pv lv pre W) (hp : pre ++ [x] <+: secsL l) (x0 : 0 ≤ x) (x1 : x ≤ 1000000) (t : Int) (ht : t = (pre.length : Int)) (hbase : base ≤ W.heap.size) :
    Calls Try.prog 30 #[.int .i64 t, .int .i64 x, .pointer (some ⟨pv, 0, none⟩), .pointer (some ⟨lv, 0, none⟩)] W (Stp (TrJ base a p0 pv lv) (TrX base a p0 lv) B (pre ++ [x]) W) := by
  obtain ⟨hR, hpv, hT⟩ := hJ
  have h1 := hp.length_le
  simp only [List.length_append, List.length_cons, List.length_nil] at h1
  have hok := goL_ok (t := 0) h0 (secsL_bd_pre hl hp)
  rw [Int.zero_add] at hok
  have KS := Lib.hid (second_any a _ t x _ W hR.1 hok (by omega) (by omega) (by omega) x0 x1)
  have hpvm := mine_ne hR.1 hpv (by decide) (by decide) (by decide)
  have HTL := Lib.hid (traceL_length pre 0 p0)
  obtain ⟨q, hq⟩ : ∃ z, z = goL 0 p0 pre := ⟨_, rfl⟩
  have HR := Lib.hid hR
  have HT := Lib.hid hT
  have HPV0 := Lib.hid hpv
  have cpv : W.cell? ⟨pv, 0, none⟩ = some (.pointer (some ⟨a.bp, 0, none⟩)) := hpv.cell 0
  have zpv := hpv.lt
  have HTT := Lib.hid ht
  clear hR hpv hT hok ht hq
  unfold Adr.ptr at KS
  obtain ⟨i0, hi0, hi1, hi2, hi3⟩ := info_parts rowInfo
  have hi := Lib.hid (And.intro hi0 (And.intro hi1 (And.intro hi2 hi3)))
  clear hi0 hi1 hi2 hi3
  cases hb : okP t (goL 0 p0 pre) x with
  | false =>
    have HB := Lib.hid hb
    rw [hb] at KS
    clear hb
    go_enter Try.func30, Try.ntmps30
    go_wp2_with fail
    refine KS.out.mono ?_
    rintro e W1 ⟨rfl, hP1, hK1⟩
    have HKK := Lib.hid (KeepB.of_keep hK1 HR.out.1 hBm)
    have HT1 := Lib.hid (HT.out.keep HR.out.1 hK1)
    clear hP1 hK1 KS
    go_wp2
    go_ret
    exact ⟨Or.inr ⟨rfl, pre, x, rfl, HR.out.2, by rw [← HTT.out]; exact HB.out, HT1.out⟩, HKK.out⟩
  | true =>
    have HB := Lib.hid hb
    rw [hb] at KS
    clear hb
    go_enter Try.func30, Try.ntmps30
    go_wp2_with fail
    refine KS.out.mono ?_
    rintro e W1 ⟨rfl, hP1, hK1⟩
    have HK1 := Lib.hid (KeepB.of_keep hK1 HR.out.1 hBm)
    obtain ⟨v, gl, hb1, hb2, hb3⟩ := HT.out.keep HR.out.1 hK1
    have hS : secP t (goL 0 p0 pre) x = goL 0 p0 (pre ++ [x]) := by rw [secP, if_pos HB.out, goL_snoc, Int.zero_add, ← HTT.out]
    rw [hS] at hP1
    have HJ1 : Hid (RunJ a p0 (pre ++ [x]) W1) := Lib.hid ⟨hP1, (okL_snoc ..).2 ⟨HR.out.2, by rw [Int.zero_add, ← HTT.out]; exact HB.out⟩⟩
    have HPV := Lib.hid (hK1.blk HPV0.out hpvm)
    obtain ⟨rA, rc, heq⟩ := row_slice hb2
    subst heq
    have hglen : gl.length ≤ 20000 := by have := hb3.1; have := HTL.out; omega
    obtain ⟨en, hen⟩ : ∃ z, z = energies (goL 0 p0 (pre ++ [x])) := ⟨_, rfl⟩
    have KE := Lib.hid (fun W h => energies_any a (goL 0 p0 (pre ++ [x])) W h)
    have hTL : Hid (traceL 0 p0 (pre ++ [x]) = traceL 0 p0 pre ++ [en]) := Lib.hid (by rw [hen]; exact traceL_snoc pre 0 p0 x HR.out.2 (by rw [Int.zero_add, ← HTT.out]; exact HB.out))
    rw [← hen] at KE
    have hW1 : base ≤ W1.heap.size := by have := hK1.size; omega
    have hbvlt := World.ownsRow.lt hb2
    have hSown : ∀ (b : Nat) (T : TypeId) (cs : Array Value), Blk W1 b T cs → T ≠ 30 → T ≠ 44 → ¬ trS (.slice rA gl.length rc) lv b := fun b T cs h h1 h2 hs => by
      rcases hs with hs | rfl
      · exact own_ne hb2 h h1 hs.symm
      · exact blk_ne h hb1 h2 rfl
    have HMS : Hid (∀ b, a.mine b → ¬ trS (.slice rA gl.length rc) lv b) := Lib.hid (fun b hm hs => by
      rcases hs with hs | rfl
      · rcases hb2.2 with ⟨e, _⟩ | ⟨g, cap, cur, e, _, hgg, _⟩
        · rw [e] at hs; cases hs
        · rw [e] at hs
          obtain rfl : g = b := by simpa [Value.ownBlock] using hs
          exact mine_ne hP1 (show Blk W1 g _ cur from hgg) (by decide) (by decide) (by decide) hm
      · exact mine_ne hP1 hb1 (by decide) (by decide) (by decide) hm)
    have hpvS := hSown _ _ _ HPV.out (by decide) (by decide)
    have HP1 := Lib.hid hP1
    have hA0 : TrF W1 lv (.slice rA gl.length rc) W1.drew ∧ W1.drew.ownsRow base 30 1 (.slice rA gl.length rc) gl.length (gl.map (slV a.nc)) := ⟨⟨(Keep.refl _ _).drew, hb1⟩, hb2⟩
    have HFIN : Hid (∀ g' c' g W', TrH W1 base lv (.slice rA gl.length rc) a.nc gl.length (gl.map (slV a.nc)) en g' c' g W' → TrJ base a p0 pv lv (pre ++ [x]) W') := Lib.hid (fun g' c' g W' h => by
      refine ⟨⟨HP1.out.keep h.k HMS.out, HJ1.out.2⟩, h.k.blk HPV.out hpvS, _, gl ++ [g], h.lb, ?_, ?_⟩
      · have h2 := h.row
        rw [List.length_append, List.map_append]
        exact h2
      · rw [hTL.out]
        exact (hb3.kept fun g cs hb => h.k.blk hb (hSown _ _ _ hb (by decide) (by decide))).snoc h.hg h.gb)
    have HKB : Hid (∀ W', Keep (trS (.slice rA gl.length rc) lv) W1 W' → KeepB B 37 W1 W') := Lib.hid (fun W' h => by
      refine ⟨h.os, h.tape, h.output, h.size, fun k hk hs => h.block k hk fun hm => ?_⟩
      rcases hs with hs | ⟨cs, hs⟩
      · rcases hm with hm | rfl
        · have := (hbvlt _ hm).1; omega
        · omega
      · exact hSown _ _ _ hs (by decide) (by decide) hm)
    obtain ⟨xs, hxs⟩ : ∃ z, z = gl.map (slV a.nc) := ⟨_, rfl⟩
    obtain ⟨n, hn⟩ : ∃ z, z = gl.length := ⟨_, rfl⟩
    obtain ⟨nc, hnc⟩ : ∃ z, z = a.nc := ⟨_, rfl⟩
    obtain ⟨bp, hbp⟩ : ∃ z, z = a.bp := ⟨_, rfl⟩
    rw [← hxs, ← hn] at hA0 
    rw [← hxs, ← hn, ← hnc] at HFIN
    rw [← hn] at HKB hpvS HMS hglen
    rw [← hnc] at KE
    unfold Adr.ptr at KE HPV
    rw [← hbp] at KE HPV
    have HPR := hp
    clear hSown hb1 hb2 hb3 hP1 hK1 hS KS hen hbvlt hxs hn hnc cpv zpv hpvm hp HPR hbp
    go_wp2
    refine wp_region_free10 5 (by kernel_rfl) [some 13, some 14, some 15, some 16, some 17, none] [[], [], [1], [2], [0, 3, 2], [4, 4, 0, 1, 2, 3, 4]] [(2, .pointer (some ⟨pv, 0, none⟩)), (3, .pointer (some ⟨lv, 0, none⟩))] (PhR (fun W => TrF W1 lv (.slice rA n rc) W ∧ W.ownsRow base 30 1 (.slice rA n rc) n xs) (TrF W1 lv (.slice rA n rc)) (TrG W1 base lv (.slice rA n rc) nc n xs en)) (trPhi W1.heap.size base bp nc n rA rc xs en) (phPsi 4) (by kernel_rfl) (by kernel_rfl) rfl (by kernel_rfl) ?_ ?_ ⟨fun _ => 0, PhR.begin hA0, fun i _ => phPsi_0⟩ ?_ ?_
    · intro z hz
      simp only [List.mem_cons, List.mem_nil_iff, or_false] at hz
      rcases hz with rfl | rfl
      all_goals exact ⟨by kernel_rfl, rfl⟩
    · intro i v W γ hi h
      rcases i with _ | _ | _ | _ | _ | _ | i
      all_goals first | exact h | (simp at hi)
    · refine ⟨?_, ?_, ?_, ?_, ?_, ?_, trivial⟩
      all_goals
        intro aa W γ evv hcc hff hfx hR hψ hpre
        simp only [List.mem_cons, List.mem_nil_iff, or_false, forall_eq, forall_eq_or_imp] at hfx
        obtain ⟨f0, f1⟩ := hfx
        have HR := Lib.hid hR
        clear hR
        refine ⟨fun _ K hK => ?_, trivial⟩

      · have HF := ap_F HR.out (hψ.2 (by decide))
        have hc : W.cell? ⟨lv, 0, none⟩ = some (.slice rA n rc) := HF.2.cell 0
        have hz := HF.2.lt
        clear HF
        clear hpre hψ
        go_simp
        exact hK _ _ γ HR.out (fun _ _ _ _ h => h) (fun _ _ _ h => h) rfl
      · have HF := ap_F HR.out (hψ.2 (by decide))
        have hb := HF.1.blk HPV.out hpvS
        have hc : W.cell? ⟨pv, 0, none⟩ = some (.pointer (some ⟨bp, 0, none⟩)) := hb.cell 0
        have hz := hb.lt
        clear HF hb
        clear hpre hψ
        go_simp
        exact hK _ _ γ HR.out (fun _ _ _ _ h => h) (fun _ _ _ h => h) rfl
      · have q0 : evv (.tmp 14) = _ := hpre 1 (by decide)
        have HF := ap_F HR.out (hψ.2 (by decide))
        have C := Lib.hid (KE.out W (HP1.out.keep HF.1 HMS.out))
        have hzW := HF.1.size
        clear hpre HF
        go_simp
        refine C.out.mono ?_
        rintro e w5 ⟨g, rfl, hB5, hg, hN⟩
        exact hK _ w5 γ (ap_next (fun W W' h k => trF_next h k) (fun W W' h k => row_next h k) (hψ.2 (by decide)) HR.out hB5) (fun j u _ _ h => trPhi_next hB5 h) (fun _ _ _ h => h) ⟨g, rfl, by omega, fun _ => hN⟩
      · obtain ⟨g, q0, hg, hN⟩ := hpre 2 (by decide)
        replace q0 : evv (.tmp 15) = _ := q0
        clear hpre
        go_simp
        have hB5 : Below W.heap.size W (W.alloc (.cells #[.slice (some ⟨g, 0, none⟩) nc nc] 30)) := (Below.refl _ _).alloc (Nat.le_refl _) _
        exact hK _ _ γ (ap_next (fun W W' h k => trF_next h k) (fun W W' h k => row_next h k) (hψ.2 (by decide)) HR.out hB5) (fun j u _ _ h => trPhi_next hB5 h) (fun _ _ _ h => h) ⟨W.heap.size, g, rfl, fun h0 => ⟨heap_alloc_new W _, ap_own_lt (PhR.is0 HR.out h0).2, hg, (hN h0).below hB5 (hN h0).lt⟩⟩
      · have q0 : evv (.tmp 13) = _ := hpre 0 (by decide)
        have hγ : γ 0 = 0 := hψ.1 rfl
        obtain ⟨B, g, q1, hB⟩ := hpre 3 (by decide)
        obtain ⟨hB2, hB1, hg, hN⟩ := hB hγ
        replace q1 : evv (.tmp 16) = _ := q1
        have h0 := PhR.is0 HR.out hγ
        have hrow := h0.2
        have hbW := h0.1.1.size
        obtain ⟨v', W', hr, h2, h3, _, _⟩ := run_append_own_at (P := Try.prog) W base 44 44 30 i0 (.slice none 0 0) 1 24 Try.underlying44 hi.out.1 hi.out.2.1 hi.out.2.2.1 hi.out.2.2.2 rfl (by decide) (.slice rA n rc) n xs hrow ⟨B, 0, none⟩ 1 1 [.slice (some ⟨g, 0, none⟩) nc nc] rfl (fun j u hj => by
          rw [add0, Blk.cell hB2]
          simpa using hj) (by intro u hu; simp only [List.mem_cons, List.mem_nil_iff, or_false] at hu; subst hu; rfl) (by simp only [maxLen]; omega) (by omega) (by omega)
        unfold execOp
        simp only [resolve, invoke, builtin, Sem.run_bind, Sem.run_pure, Result.andThen_ok, List.map_toArray, List.map_cons, List.map_nil, q0, q1, hr]
        obtain ⟨g', c', e'⟩ := ownsRow_succ h2
        subst e'
        refine hK _ W' (fun _ => 1) (PhR.to1 (trF_grown h0.1 hrow h3)) (fun j u hj hne h => trPhi_1 hγ hne h) (fun _ j h1 h2 => phPsi_1 h1) ⟨g', c', g, rfl, by decide, Or.inr ⟨h2, by omega, hN.kept h3 (own_ne hrow hN (by decide))⟩⟩
      · obtain ⟨g', c', g, q1, hne, hrow⟩ := hpre 4 (by decide)
        replace q1 : evv (.tmp 17) = _ := q1
        have h1 := PhR.is1 HR.out (hψ.2 (by decide)) hne
        rcases hrow with h | ⟨hrow, hg, hN⟩
        · rw [h1.1] at h; cases h
        have hfin := trF_store h1.2 hrow hg hN
        have d1 : W.cell? ⟨lv, 0, none⟩ = some (.slice rA n rc) := h1.2.2.cell 0
        have fz := h1.2.2.frozen 0
        have hzz := h1.2.2.lt
        clear h1 hrow hN
        go_simp
        refine hK undef _ (fun _ => 2) (PhR.to2 ⟨g', c', g, hfin⟩) (fun j u h1 h2 h3 => trPhi_2 h2 h3) (fun h => absurd rfl h) rfl
    · intro vs w' γ hvl hR hφ
      have qe : γ 0 = 2 := hφ 5 (by decide)
      have HR := Lib.hid hR
      clear hφ hR
      match vs, hvl with
      | [y0, y1, y2, y3, y4, y5], _ =>
      obtain ⟨g', c', g, hG⟩ := PhR.is2 HR.out qe
      have HGG := Lib.hid hG
      clear hG qe HR
      simp [putAll]
      go_wp2
      go_ret
      exact ⟨Or.inl ⟨rfl, HFIN.out _ _ _ _ HGG.out⟩, HK1.out.trans (HKB.out _ HGG.out.k)⟩
end Go.Proofs.Ytnpkcipeacogcaa
