/- law06: BankMonotone. -/
import Derived.Test.YtnpkcipeacogcaaBkWf
import Derived.Test.YtnpkcipeacogcaaBkMp

set_option linter.unusedSimpArgs false
set_option linter.unusedVariables false
namespace Go.Proofs.Ytnpkcipeacogcaa
open Go.RowKit

def moPhi (base bp : Nat) (bA : Option Addr) (bn bc : Nat) (gA : Option Addr) (gn gc : Nat) (bs : List Bat) : Nat → Value → World → (Nat → Nat) → Prop
  | 0, v, _, _ => v = .pointer (some ⟨bp, 0, none⟩)
  | 1, v, _, _ => v = .slice bA bn bc
  | 2, v, W, γ => ∃ A c, v = .slice A bn c ∧ (γ 0 = 2 ∨ W.ownsRow base 34 4 (.slice A bn c) bn (bs.flatMap Bat.enc))
  | 3, v, _, _ => v = .pointer (some ⟨bp, 1, none⟩)
  | 4, v, _, _ => v = .slice gA gn gc
  | 5, v, W, γ => ∃ A c, v = .agg #[.slice A bn c, .slice gA gn gc] ∧ (γ 0 = 2 ∨ W.ownsRow base 34 4 (.slice A bn c) bn (bs.flatMap Bat.enc))
  | 6, v, W, γ => v = .pointer (some ⟨γ 1, 0, none⟩) ∧ (γ 0 = 2 ∨ (base ≤ γ 1 ∧ Blk W (γ 1) 26 #[.slice none 0 0, .slice none 0 0]))
  | 7, _, _, γ => γ 0 = 2
  | _, _, _, _ => True
def moR (base : Nat) (wB : World) (bn gn gc : Nat) (gA : Option Addr) (bs : List Bat) (W : World) (γ : Nat → Nat) : Prop :=
  Below wB.heap.size wB W ∧ (γ 0 = 2 → ∃ A c, Blk W (γ 1) 26 #[.slice A bn c, .slice gA gn gc] ∧ base ≤ γ 1 ∧ W.ownsRow base 34 4 (.slice A bn c) bn (bs.flatMap Bat.enc))
section
variable {base bp : Nat} {bA : Option Addr} {bn bc : Nat} {gA : Option Addr} {gn gc : Nat} {bs : List Bat} {j : Nat} {u : Value} {W W' wB : World} {γ γ' : Nat → Nat}
theorem moPhi_next (hb : Below W.heap.size W W') (h0 : γ' 0 = γ 0) (h1 : j = 6 → γ' 1 = γ 1) (h : moPhi base bp bA bn bc gA gn gc bs j u W γ) : moPhi base bp bA bn bc gA gn gc bs j u W' γ' := by
  unfold moPhi at h ⊢
  split at h
  all_goals first | exact h | trivial | skip
  · obtain ⟨A, c, k1, k2⟩ := h
    exact ⟨A, c, k1, by rw [h0]; exact k2.imp id fun h => row_next h hb⟩
  · obtain ⟨A, c, k1, k2⟩ := h
    exact ⟨A, c, k1, by rw [h0]; exact k2.imp id fun h => row_next h hb⟩
  · rw [h1 rfl, h0]
    exact ⟨h.1, h.2.imp id fun h => ⟨h.1, h.2.below hb h.2.lt⟩⟩
  · rw [h0]; exact h
theorem moPhi_2 (hi : j ≠ 7) (h : moPhi base bp bA bn bc gA gn gc bs j u W γ) : moPhi base bp bA bn bc gA gn gc bs j u W' (fun i => if i = 0 then 2 else γ i) := by
  unfold moPhi at h ⊢
  split at h
  all_goals first | exact h | trivial | exact absurd rfl hi | skip
  · obtain ⟨A, c, k1, k2⟩ := h
    exact ⟨A, c, k1, Or.inl (by simp)⟩
  · obtain ⟨A, c, k1, k2⟩ := h
    exact ⟨A, c, k1, Or.inl (by simp)⟩
  · exact ⟨h.1, Or.inl (by simp)⟩
theorem moR_next (h : moR base wB bn gn gc gA bs W γ) (h2 : γ' 0 = 0) (hb : Below W.heap.size W W') : moR base wB bn gn gc gA bs W' γ' := ⟨below3 h.1 hb (Nat.le_refl _), fun e => by omega⟩
end
theorem RowW.blk {α : Type} {w : World} {b : Nat} {T : TypeId} {f : α → List Value} {A : Option Addr} {l : List α} (h : RowW w b T f A l) (hl : l ≠ []) : ∃ cur, Blk w b T cur := by
  rcases h with h | ⟨_, cur, h, _⟩
  · exact absurd h hl
  · exact ⟨cur, h⟩
/-- What the law writes: the clone of the batteries, that of the load, that of the fails. -/
structure MoR (w2 wr : World) (xb cb sb fb : Nat) (cA sA fA : Option Addr) (bn cc gn gc : Nat) (gA : Option Addr) (cs : List Bat) (L : List Spn) (fs : List Int) : Prop where
  low : Below w2.heap.size w2 wr
  box : Blk wr xb 26 #[.slice cA bn cc, .slice gA gn gc]
  rc : RowW wr cb 34 Bat.enc cA cs
  rs : RowW wr sb 37 Spn.enc sA L
  rf : RowW wr fb 3 encI fA fs
  bc : cs ≠ [] → w2.heap.size ≤ cb
  bs : L ≠ [] → w2.heap.size ≤ sb
  bf : fs ≠ [] → w2.heap.size ≤ fb
section
variable {w2 wr W : World} {xb cb sb fb : Nat} {cA sA fA : Option Addr} {bn cc gn gc : Nat} {gA : Option Addr} {cs : List Bat} {L : List Spn} {fs : List Int}
theorem MoR.next (h : MoR w2 wr xb cb sb fb cA sA fA bn cc gn gc gA cs L fs) (hb : Below wr.heap.size wr W) : MoR w2 W xb cb sb fb cA sA fA bn cc gn gc gA cs L fs :=
  ⟨below3 h.low hb (Nat.le_refl _), h.box.below hb h.box.lt, h.rc.kept fun _ _ k => k.below hb k.lt, h.rs.kept fun _ _ k => k.below hb k.lt, h.rf.kept fun _ _ k => k.below hb k.lt, h.bc, h.bs, h.bf⟩
theorem ne_of_at {α : Type} {l : List α} {i : Nat} {x : α} (h : l[i]? = some x) : l ≠ [] := fun e => by rw [e] at h; simp at h
theorem set_ne {α : Type} {l : List α} {i : Nat} {x : α} (h : l.set i x ≠ []) : l ≠ [] := fun e => by rw [e] at h; simp at h
theorem MoR.setC (h : MoR w2 wr xb cb sb fb cA sA fA bn cc gn gc gA cs L fs) {i : Nat} {x x' : Bat} {u : Value} (hx : cs[i]? = some x) (hu : x'.enc = x.enc.set 0 u) : MoR w2 (wr.setCell ⟨cb, i * 4, none⟩ u) xb cb sb fb cA sA fA bn cc gn gc gA (cs.set i x') L fs := by
  have hne := ne_of_at hx
  obtain ⟨cur, hc⟩ := h.rc.blk hne
  have := h.rc.set_ (x' := x') (j := 0) (u := u) Bat.enc_len hx (by decide) hu
  exact ⟨h.low.setCell (h.bc hne) _, h.box.far (blk_ne h.box hc (by decide)) u, this, h.rs.kept fun _ _ k => k.far (blk_ne k hc (by decide)) u, h.rf.kept fun _ _ k => k.far (blk_ne k hc (by decide)) u, fun k => h.bc hne, h.bs, h.bf⟩
theorem MoR.setS (h : MoR w2 wr xb cb sb fb cA sA fA bn cc gn gc gA cs L fs) {i : Nat} {x x' : Spn} {u : Value} (hx : L[i]? = some x) (hu : x'.enc = x.enc.set 1 u) : MoR w2 (wr.setCell ⟨sb, i * 2 + 1, none⟩ u) xb cb sb fb cA sA fA bn cc gn gc gA cs (L.set i x') fs := by
  have hne := ne_of_at hx
  obtain ⟨cur, hc⟩ := h.rs.blk hne
  have := h.rs.set_ (x' := x') (j := 1) (u := u) Spn.enc_len hx (by decide) hu
  exact ⟨h.low.setCell (h.bs hne) _, h.box.far (blk_ne h.box hc (by decide)) u, h.rc.kept fun _ _ k => k.far (blk_ne k hc (by decide)) u, this, h.rf.kept fun _ _ k => k.far (blk_ne k hc (by decide)) u, h.bc, fun k => h.bs hne, h.bf⟩
theorem MoR.setF (h : MoR w2 wr xb cb sb fb cA sA fA bn cc gn gc gA cs L fs) {i : Nat} {x x' : Int} {u : Value} (hx : fs[i]? = some x) (hu : encI x' = (encI x).set 0 u) : MoR w2 (wr.setCell ⟨fb, i, none⟩ u) xb cb sb fb cA sA fA bn cc gn gc gA cs L (fs.set i x') := by
  have hne := ne_of_at hx
  obtain ⟨cur, hc⟩ := h.rf.blk hne
  have := RowW.set_ (f := encI) (size := 1) (x' := x') (j := 0) (u := u) (fun _ => rfl) h.rf hx (by decide) hu
  rw [Nat.mul_one, Nat.add_zero] at this
  exact ⟨h.low.setCell (h.bf hne) _, h.box.far (blk_ne h.box hc (by decide)) u, h.rc.kept fun _ _ k => k.far (blk_ne k hc (by decide)) u, h.rs.kept fun _ _ k => k.far (blk_ne k hc (by decide)) u, this, h.bc, h.bs, fun k => h.bf hne⟩
end
theorem RowW.rd {α : Type} {w : World} {b size : Nat} {T : TypeId} {f : α → List Value} {A : Option Addr} {l : List α} {n : Nat} (hf : ∀ x, (f x).length = size) (hl : l.length = n) (h : RowW w b T f A l) : Rd w w.heap.size size f A n l := by
  refine ⟨hl, fun hn => ?_⟩
  have hx0 : l[0]? = some (l[0]'(by omega)) := List.getElem?_eq_getElem (by omega)
  obtain ⟨hA, hb, _, _⟩ := h.at_ hf hx0
  refine ⟨b, 0, hA, hb, fun i x hx j u hu => ?_⟩
  rw [Nat.zero_add]
  exact (h.at_ hf hx).2.2.2 j u hu
def mo8 (xb : Nat) (cb : Nat) (cc : Nat) (bn : Nat) (k : Nat) (en : Int) (fu : Int) (mb : Nat) (mo : Nat) (n4 : Nat) (c4 : Nat) (m : Int) : Nat → Value → World → (Nat → Nat) → Prop
  | 0, v, _, _ => v = .pointer (some ⟨xb, 0, none⟩)
  | 1, v, _, _ => v = .slice (some ⟨cb, 0, none⟩) bn cc
  | 2, v, _, _ => v = .int .i64 (k : Int)
  | 3, v, _, _ => v = .pointer (some ⟨cb, k * 4, none⟩)
  | 4, v, _, _ => v = .pointer (some ⟨cb, k * 4, none⟩)
  | 5, v, _, _ => v = .int .i64 en
  | 6, v, _, _ => v = .pointer (some ⟨xb, 0, none⟩)
  | 7, v, _, _ => v = .slice (some ⟨cb, 0, none⟩) bn cc
  | 8, v, _, _ => v = .int .i64 (k : Int)
  | 9, v, _, _ => v = .pointer (some ⟨cb, k * 4, none⟩)
  | 10, v, _, _ => v = .pointer (some ⟨cb, k * 4 + 1, none⟩)
  | 11, v, _, _ => v = .int .i64 fu
  | 12, v, _, _ => v = .pointer (some ⟨xb, 0, none⟩)
  | 13, v, _, _ => v = .slice (some ⟨cb, 0, none⟩) bn cc
  | 14, v, _, _ => v = .int .i64 (k : Int)
  | 15, v, _, _ => v = .pointer (some ⟨cb, k * 4, none⟩)
  | 16, v, _, _ => v = .pointer (some ⟨cb, k * 4, none⟩)
  | 17, v, _, _ => v = .int .i64 en
  | 18, v, _, _ => v = .int .i64 (fu - en)
  | 19, v, _, _ => v = .slice (some ⟨mb, mo, none⟩) n4 c4
  | 20, v, _, _ => v = .int .i64 (k : Int)
  | 21, v, _, _ => v = .pointer (some ⟨mb, mo + k, none⟩)
  | 22, v, _, _ => v = .int .u8 m
  | 23, v, _, _ => v = .int .i64 m
  | 24, v, _, _ => v = .int .i64 ((fu - en) * m)
  | 25, v, _, _ => v = .int .i64 (((fu - en) * m).tdiv 255)
  | 26, v, _, _ => v = .int .i64 (en + ((fu - en) * m).tdiv 255)
  | 27, v, _, _ => v = .pointer (some ⟨cb, k * 4, none⟩)
  | 28, v, _, _ => v = .pointer (some ⟨cb, k * 4, none⟩)
  | 29, _, _, γ => γ 0 = 2
  | _, _, _, _ => True
theorem mo8_2 {xb : Nat} {cb : Nat} {cc : Nat} {bn : Nat} {k : Nat} {en : Int} {fu : Int} {mb : Nat} {mo : Nat} {n4 : Nat} {c4 : Nat} {m : Int} {j : Nat} {u : Value} {W W' : World} {γ γ' : Nat → Nat} (hj : j ≠ 29) (h : mo8 xb cb cc bn k en fu mb mo n4 c4 m j u W γ) : mo8 xb cb cc bn k en fu mb mo n4 c4 m j u W' γ' := by
  unfold mo8 at h ⊢
  split at h <;> first | exact h | exact absurd rfl hj | trivial
def mo15 (sb : Nat) (sc : Nat) (ln : Nat) (k : Nat) (pw : Int) (mb : Nat) (mo : Nat) (n5 : Nat) (c5 : Nat) (m : Int) : Nat → Value → World → (Nat → Nat) → Prop
  | 0, v, _, _ => v = .slice (some ⟨sb, 0, none⟩) ln sc
  | 1, v, _, _ => v = .int .i64 (k : Int)
  | 2, v, _, _ => v = .pointer (some ⟨sb, k * 2, none⟩)
  | 3, v, _, _ => v = .pointer (some ⟨sb, k * 2 + 1, none⟩)
  | 4, v, _, _ => v = .int .i64 pw
  | 5, v, _, _ => v = .slice (some ⟨sb, 0, none⟩) ln sc
  | 6, v, _, _ => v = .int .i64 (k : Int)
  | 7, v, _, _ => v = .pointer (some ⟨sb, k * 2, none⟩)
  | 8, v, _, _ => v = .pointer (some ⟨sb, k * 2 + 1, none⟩)
  | 9, v, _, _ => v = .int .i64 pw
  | 10, v, _, _ => v = .slice (some ⟨mb, mo, none⟩) n5 c5
  | 11, v, _, _ => v = .int .i64 (k : Int)
  | 12, v, _, _ => v = .pointer (some ⟨mb, mo + k, none⟩)
  | 13, v, _, _ => v = .int .u8 m
  | 14, v, _, _ => v = .int .i64 m
  | 15, v, _, _ => v = .int .i64 (pw * m)
  | 16, v, _, _ => v = .int .i64 ((pw * m).tdiv 255)
  | 17, v, _, _ => v = .int .i64 (pw - (pw * m).tdiv 255)
  | 18, v, _, _ => v = .pointer (some ⟨sb, k * 2, none⟩)
  | 19, v, _, _ => v = .pointer (some ⟨sb, k * 2 + 1, none⟩)
  | 20, _, _, γ => γ 0 = 2
  | _, _, _, _ => True
theorem mo15_2 {sb : Nat} {sc : Nat} {ln : Nat} {k : Nat} {pw : Int} {mb : Nat} {mo : Nat} {n5 : Nat} {c5 : Nat} {m : Int} {j : Nat} {u : Value} {W W' : World} {γ γ' : Nat → Nat} (hj : j ≠ 20) (h : mo15 sb sc ln k pw mb mo n5 c5 m j u W γ) : mo15 sb sc ln k pw mb mo n5 c5 m j u W' γ' := by
  unfold mo15 at h ⊢
  split at h <;> first | exact h | exact absurd rfl hj | trivial
def mo21 (tb : Nat) (tc : Nat) (gn : Nat) (k : Nat) (f : Int) (mb : Nat) (mo : Nat) (n6 : Nat) (c6 : Nat) (m : Int) : Nat → Value → World → (Nat → Nat) → Prop
  | 0, v, _, _ => v = .slice (some ⟨tb, 0, none⟩) gn tc
  | 1, v, _, _ => v = .int .i64 (k : Int)
  | 2, v, _, _ => v = .pointer (some ⟨tb, k, none⟩)
  | 3, v, _, _ => v = .int .i64 f
  | 4, v, _, _ => v = .slice (some ⟨mb, mo, none⟩) n6 c6
  | 5, v, _, _ => v = .int .i64 (k : Int)
  | 6, v, _, _ => v = .pointer (some ⟨mb, mo + k, none⟩)
  | 7, v, _, _ => v = .int .u8 m
  | 8, v, _, _ => v = .int .i64 m
  | 9, v, _, _ => v = .slice (some ⟨tb, 0, none⟩) gn tc
  | 10, v, _, _ => v = .int .i64 (k : Int)
  | 11, v, _, _ => v = .pointer (some ⟨tb, k, none⟩)
  | 12, v, _, _ => v = .int .i64 f
  | 13, v, _, _ => v = .int .i64 (f + 1)
  | 14, v, _, _ => v = .int .i64 (m.tmod (f + 1))
  | 15, v, _, _ => v = .int .i64 (f - m.tmod (f + 1))
  | 16, v, _, _ => v = .pointer (some ⟨tb, k, none⟩)
  | 17, _, _, γ => γ 0 = 2
  | _, _, _, _ => True
theorem mo21_2 {tb : Nat} {tc : Nat} {gn : Nat} {k : Nat} {f : Int} {mb : Nat} {mo : Nat} {n6 : Nat} {c6 : Nat} {m : Int} {j : Nat} {u : Value} {W W' : World} {γ γ' : Nat → Nat} (hj : j ≠ 17) (h : mo21 tb tc gn k f mb mo n6 c6 m j u W γ) : mo21 tb tc gn k f mb mo n6 c6 m j u W' γ' := by
  unfold mo21 at h ⊢
  split at h <;> first | exact h | exact absurd rfl hj | trivial
set_option maxRecDepth 100000 in
set_option maxHeartbeats 4000000 in
theorem mono_any (A1 A2 A3 A4 A5 A6 : Option Addr) (n1 c1 n2 c2 n3 c3 n4 c4 n5 c5 n6 c6 : Nat) (l1 l2 l3 l4 l5 l6 : List Int) (w : World) (h1 : Rd w w.heap.size 1 encU A1 n1 l1) (h2 : Rd w w.heap.size 1 encU A2 n2 l2) (h3 : Rd w w.heap.size 1 encU A3 n3 l3) (h4 : Rd w w.heap.size 1 encU A4 n4 l4) (h5 : Rd w w.heap.size 1 encU A5 n5 l5) (h6 : Rd w w.heap.size 1 encU A6 n6 l6) (u1 : U8s l1) (u2 : U8s l2) (u3 : U8s l3) (u4 : U8s l4) (u5 : U8s l5) (u6 : U8s l6) (z1 : n1 ≤ 9223372036854775807) (z2 : n2 ≤ 9223372036854775807) (z3 : n3 ≤ 9223372036854775807) (z4 : n4 ≤ 9223372036854775807) (z5 : n5 ≤ 9223372036854775807) (z6 : n6 ≤ 9223372036854775807) :
    Calls Try.prog 3 #[.slice A1 n1 c1, .slice A2 n2 c2, .slice A3 n3 c3, .slice A4 n4 c4, .slice A5 n5 c5, .slice A6 n6 c6] w fun e w' => e = .returned (.bool true) ∧ Below w.heap.size w w' := by
  have H1 := Lib.hid h1
  have H2 := Lib.hid h2
  have H3 := Lib.hid h3
  have KM := Lib.hid (fun W h => Made_any A1 n1 c1 l1 W h u1 z1)
  have KL := Lib.hid (fun W h => Loaded_any A2 n2 c2 l2 W h u2 (by omega))
  have KF0 := Lib.hid (fun (bA gA : Option Addr) (bn bc gn gc : Nat) (gs : List Gen) W hg h hgn ok => Failed_any bA gA A3 bn bc gn gc n3 c3 gs l3 W hg h u3 hgn ok (by omega))
  have KA := Lib.hid awake_any
  have H4 := Lib.hid h4
  have H5 := Lib.hid h5
  have H6 := Lib.hid h6
  have U4 := Lib.hid u4
  have U5 := Lib.hid u5
  have U6 := Lib.hid u6
  have Z4 := Lib.hid h4.1
  have Z5 := Lib.hid h5.1
  have Z6 := Lib.hid h6.1
  clear h1 h2 h3 u1 u2 u3 z1 z2 z3 h4 h5 h6 u4 u5 u6
  go_enter Try.func3, Try.ntmps3
  go_wp2_with fail
  refine (KM.out _ H1.out).mono ?_
  rintro e w0 ⟨bA, bc, gA, gc, bs, gs, rfl, hB0, hrb, hrg, hb4, hg3, hbs, hgs⟩
  obtain ⟨bn, hbn⟩ : ∃ z, z = bs.length := ⟨_, rfl⟩
  obtain ⟨gn, hgn⟩ : ∃ z, z = gs.length := ⟨_, rfl⟩
  rw [← hbn] at hrb ⊢
  rw [← hgn] at hrg ⊢
  have KF := Lib.hid (fun W hg h => KF0.out bA gA bn bc gn gc gs W hg h (by omega) (fun g hg => (hgs g hg).1))
  have HRB := Lib.hid hrb
  have HRG := Lib.hid hrg
  have HMD := Lib.hid (And.intro hb4 (And.intro hg3 (And.intro hbs hgs)))
  have HBN := Lib.hid hbn
  have HGN := Lib.hid hgn
  have HL0 := Lib.hid hB0
  clear hrb hrg hb4 hg3 hbs hgs hbn hgn hB0 KF0 KM
  go_wp2
  obtain ⟨bp, hbp⟩ : ∃ z, z = w0.heap.size := ⟨_, rfl⟩
  obtain ⟨w1, hw1⟩ : ∃ z, z = w0.alloc (.cells #[.slice bA bn bc, .slice gA gn gc] 26) := ⟨_, rfl⟩
  have hi1 : Below w0.heap.size w0 w1 := by rw [hw1]; exact (Below.refl _ _).alloc (Nat.le_refl _) _
  have HBP : Hid (Blk w1 bp 26 #[.slice bA bn bc, .slice gA gn gc]) := Lib.hid (by rw [hw1, hbp]; exact heap_alloc_new w0 _)
  rw [← hw1, ← hbp]
  have HL1 := Lib.hid (below3 HL0.out hi1 (Nat.le_refl _))
  have HB := Lib.hid (row_rd Bat.enc_len HBN.out.symm (row_next HRB.out hi1))
  have HG := Lib.hid (row_rd Gen.enc_len HGN.out.symm (row_next HRG.out hi1))
  have H2 := Lib.hid (H2.out.next HL1.out)
  have H3 := Lib.hid (H3.out.next HL1.out)
  have H4 := Lib.hid (H4.out.next HL1.out)
  have H5 := Lib.hid (H5.out.next HL1.out)
  have H6 := Lib.hid (H6.out.next HL1.out)
  clear hw1 hbp hi1 HRB HRG HL0 H1
  refine wp_region_free10 6 (by kernel_rfl) [some 36, some 37, some 38, some 39, some 40, some 14, some 15] [[], [0], [], [], [2, 3, 1], [1, 4, 0, 1], [4, 5, 0, 1, 2, 3, 4, 5]] [(1, .slice A2 n2 c2), (2, .slice A3 n3 c3), (13, .pointer (some ⟨bp, 0, none⟩))] (fun W _ => Below w1.heap.size w1 W) (r2Phi w1.heap.size bp (.slice A2 n2 c2) (.slice A3 n3 c3) (.agg #[.slice bA bn bc, .slice gA gn gc]) gn gs) (fun _ _ _ => True) (by kernel_rfl) (by kernel_rfl) rfl (by kernel_rfl) ?_ ?_ ⟨fun _ => 0, (Below.refl _ _).drew, fun i _ => trivial⟩ ?_ ?_
  · intro z hz
    simp only [List.mem_cons, List.mem_nil_iff, or_false] at hz
    rcases hz with rfl | rfl | rfl
    all_goals exact ⟨by kernel_rfl, rfl⟩
  · intro i v W γ hi h
    rcases i with _ | _ | _ | _ | _ | _ | _ | i
    all_goals first | exact h | (simp at hi)
  · refine ⟨?_, ?_, ?_, ?_, ?_, ?_, ?_, trivial⟩
    all_goals
      intro a W γ ev hcc hff hfx hR hψ hpre
      simp only [List.mem_cons, List.mem_nil_iff, or_false, forall_eq, forall_eq_or_imp] at hfx
      obtain ⟨f0, f1, f2⟩ := hfx
      have HR := Lib.hid hR
      clear hR
      refine ⟨fun _ K hK => ?_, trivial⟩

    · clear hpre hψ
      go_simp
      exact hK _ _ γ HR.out (fun _ _ _ _ h => h) (fun _ _ _ h => h) rfl
    · have q0 : ev (.tmp 36) = _ := hpre 0 (by decide)
      have C := Lib.hid (KL.out W (H2.out.next (HR.out : Below w1.heap.size w1 W)))
      have HRW : Hid (Below w1.heap.size w1 W) := HR
      clear hpre
      go_simp
      refine C.out.mono ?_
      rintro e w5 ⟨A, c, L, rfl, hB5, hrow, hL1, hL2⟩
      exact hK _ w5 γ (below3 HRW.out hB5 (Nat.le_refl _)) (fun j u _ _ h => r2Phi_next hB5 h) (fun _ _ _ h => h) ⟨A, c, L, rfl, row_low hrow HRW.out.size, hL1, hL2⟩
    · have c0 : W.cell? ⟨bp, 0, none⟩ = some (.slice bA bn bc) := ((HR.out : Below w1.heap.size w1 W).cell (p := ⟨bp, 0, none⟩) HBP.out.lt).trans (HBP.out.cell 0)
      have c1 : W.cell? ⟨bp, 1, none⟩ = some (.slice gA gn gc) := ((HR.out : Below w1.heap.size w1 W).cell (p := ⟨bp, 1, none⟩) HBP.out.lt).trans (HBP.out.cell 1)
      have hzz : bp < W.heap.size := Nat.lt_of_lt_of_le HBP.out.lt (HR.out : Below w1.heap.size w1 W).size
      clear hpre hψ
      go_simp
      exact hK _ _ γ HR.out (fun _ _ _ _ h => h) (fun _ _ _ h => h) rfl
    · clear hpre hψ
      go_simp
      exact hK _ _ γ HR.out (fun _ _ _ _ h => h) (fun _ _ _ h => h) rfl
    · have q0 : ev (.tmp 38) = _ := hpre 2 (by decide)
      have q1 : ev (.tmp 39) = _ := hpre 3 (by decide)
      have C := Lib.hid (KF.out W (HG.out.next (HR.out : Below w1.heap.size w1 W)) (H3.out.next (HR.out : Below w1.heap.size w1 W)))
      have HRW : Hid (Below w1.heap.size w1 W) := HR
      clear hpre
      go_simp
      refine C.out.mono ?_
      rintro e w5 ⟨A, c, fs, rfl, hB5, hrow, hfs⟩
      exact hK _ w5 γ (below3 HRW.out hB5 (Nat.le_refl _)) (fun j u _ _ h => r2Phi_next hB5 h) (fun _ _ _ h => h) ⟨A, c, fs, rfl, row_low hrow HRW.out.size, hfs⟩
    · obtain ⟨A, c, L, q0, hrow, hL1, hL2⟩ := hpre 1 (by decide)
      replace q0 : ev (.tmp 37) = _ := q0
      clear hpre
      go_simp
      exact hK _ W γ HR.out (fun _ _ _ _ h => h) (fun _ _ _ h => h) ⟨A, c, L, rfl, hrow, hL1, hL2⟩
    · obtain ⟨A, c, fs, q0, hrow, hfs⟩ := hpre 4 (by decide)
      replace q0 : ev (.tmp 40) = _ := q0
      clear hpre
      go_simp
      exact hK _ W γ HR.out (fun _ _ _ _ h => h) (fun _ _ _ h => h) ⟨A, c, fs, rfl, hrow, hfs⟩
  · intro vs w' γ hvl hR hφ
    have q1 := hφ 5 (by decide)
    have q2 := hφ 6 (by decide)
    have HR := Lib.hid hR
    clear hφ hR
    match vs, hvl with
    | [y0, y1, y2, y3, y4, y5, y6], _ =>
    simp only [List.getD_cons_zero, List.getD_cons_succ] at q1 q2
    obtain ⟨lA, lc, L, e1, hrl, hL1, hL2⟩ := q1
    obtain ⟨fA, fc, fs, e2, hrf, hfs⟩ := q2
    subst e1
    subst e2
    have HLR : Hid (Below w1.heap.size w1 w') := HR
    have OKA := Lib.hid (law_args HMD.out.1 HMD.out.2.1 HMD.out.2.2.1 HMD.out.2.2.2 hL1 hL2)
    have OKF := Lib.hid hfs
    have HLS := Lib.hid (And.intro hL1 hL2)
    have HIN : Hid (ArgsIn w' w'.heap.size bA bn bs gA gn gs lA L.length L) := Lib.hid ⟨HB.out.next HLR.out, HG.out.next HLR.out, row_rd Spn.enc_len rfl hrl⟩
    have HFR : Hid (Rd w' w'.heap.size 1 encI fA gn fs) := Lib.hid (row_rd (fun _ => rfl) (by rw [OKF.out.1, HGN.out]) hrf)
    have HBP2 := Lib.hid (HBP.out.below HLR.out HBP.out.lt)
    have HL2 := Lib.hid (below3 HL1.out HLR.out (Nat.le_refl _))
    have H4 := Lib.hid (H4.out.next HLR.out)
    have H5 := Lib.hid (H5.out.next HLR.out)
    have H6 := Lib.hid (H6.out.next HLR.out)
    obtain ⟨w2, hw2⟩ : ∃ z, z = w' := ⟨_, rfl⟩
    rw [← hw2] at HIN HFR HBP2 HL2 H4 H5 H6 ⊢
    clear hrl hrf hL1 hL2 hfs HR HLR HB HG H2 H3 KL KF HBP HL1 hw2 hvl
    simp [putAll]
    go_wp2
    refine wp_region_free10 7 (by kernel_rfl) [some 41, some 42, some 43, some 44, some 45, some 46, some 16, none] [[], [0], [1], [], [3], [2, 4], [], [6, 5, 2, 0, 1, 2, 3, 4, 5, 6]] [(13, .pointer (some ⟨bp, 0, none⟩))] (moR w2.heap.size w2 bn gn gc gA bs) (moPhi w2.heap.size bp bA bn bc gA gn gc bs) (fun _ _ γ => γ 0 = 0) (by kernel_rfl) (by kernel_rfl) rfl (by kernel_rfl) ?_ ?_ ⟨fun _ => 0, ⟨(Below.refl _ _).drew, fun h => by cases h⟩, fun i _ => rfl⟩ ?_ ?_
    · intro z hz
      simp only [List.mem_cons, List.mem_nil_iff, or_false] at hz
      subst hz
      all_goals exact ⟨by kernel_rfl, rfl⟩
    · intro i v W γ hi h
      rcases i with _ | _ | _ | _ | _ | _ | _ | _ | i
      all_goals first | exact h | (simp at hi)
    · refine ⟨?_, ?_, ?_, ?_, ?_, ?_, ?_, ?_, trivial⟩
      all_goals
        intro a W γ ev hcc hff hfx hR hψ hpre
        simp only [List.mem_cons, List.mem_nil_iff, or_false, forall_eq, forall_eq_or_imp] at hfx
        have f0 := hfx
        clear hfx
        have HR := Lib.hid hR
        clear hR
        refine ⟨fun _ K hK => ?_, trivial⟩

      · clear hpre hψ
        go_simp
        exact hK _ _ γ HR.out (fun _ _ _ _ h => h) (fun _ _ _ h => h) rfl
      · have q0 : ev (.tmp 41) = _ := hpre 0 (by decide)
        have hzz : bp < W.heap.size := Nat.lt_of_lt_of_le HBP2.out.lt HR.out.1.size
        have c0 : W.cell? ⟨bp, 0, none⟩ = some (.slice bA bn bc) := (HR.out.1.cell (p := ⟨bp, 0, none⟩) HBP2.out.lt).trans (HBP2.out.cell 0)
        clear hpre hψ
        go_simp
        exact hK _ _ γ HR.out (fun _ _ _ _ h => h) (fun _ _ _ h => h) rfl
      · have q0 : ev (.tmp 42) = _ := hpre 1 (by decide)
        have C := Lib.hid (clone_bats bA bn bc bs W (HIN.out.bat.next HR.out.1) (by have := HMD.out.1; have := HBN.out; omega))
        clear hpre
        go_simp
        refine C.out.mono ?_
        rintro e w5 ⟨A, c, rfl, hrow, hB5, _⟩
        exact hK _ w5 γ (moR_next HR.out hψ hB5) (fun j u _ _ h => moPhi_next hB5 rfl (fun _ => rfl) h) (fun _ _ _ h => h) ⟨A, c, rfl, Or.inr (row_low hrow HR.out.1.size)⟩
      · clear hpre hψ
        go_simp
        exact hK _ _ γ HR.out (fun _ _ _ _ h => h) (fun _ _ _ h => h) rfl
      · have q0 : ev (.tmp 44) = _ := hpre 3 (by decide)
        have hzz : bp < W.heap.size := Nat.lt_of_lt_of_le HBP2.out.lt HR.out.1.size
        have c0 : W.cell? ⟨bp, 1, none⟩ = some (.slice gA gn gc) := (HR.out.1.cell (p := ⟨bp, 1, none⟩) HBP2.out.lt).trans (HBP2.out.cell 1)
        clear hpre hψ
        go_simp
        exact hK _ _ γ HR.out (fun _ _ _ _ h => h) (fun _ _ _ h => h) rfl
      · have q0 : ev (.tmp 45) = _ := hpre 4 (by decide)
        obtain ⟨A, c, q1, hrow⟩ := hpre 2 (by decide)
        replace q1 : ev (.tmp 43) = _ := q1
        clear hpre
        go_simp
        exact hK _ _ γ HR.out (fun _ _ _ _ h => h) (fun _ _ _ h => h) ⟨A, c, rfl, hrow⟩
      · clear hpre
        go_simp
        have hB5 : Below W.heap.size W (W.alloc (.cells #[.slice none 0 0, .slice none 0 0] 26)) := (Below.refl _ _).alloc (Nat.le_refl _) _
        exact hK _ _ (fun i => if i = 1 then W.heap.size else γ i) (moR_next HR.out (by simpa using hψ) hB5) (fun j u _ hj h => moPhi_next hB5 (by simp) (fun e => absurd e hj) h) (fun _ j h1 h2 => by simpa using h2) ⟨rfl, Or.inr ⟨HR.out.1.size, heap_alloc_new W _⟩⟩
      · have h2 : γ 0 ≠ 2 := by rw [show γ 0 = 0 from hψ]; decide
        obtain ⟨g', c', q0, hrow⟩ := hpre 5 (by decide)
        obtain ⟨q1, hx⟩ := hpre 6 (by decide)
        replace q0 : ev (.tmp 46) = _ := q0
        replace q1 : ev (.tmp 16) = _ := q1
        obtain ⟨x1, x2⟩ := hx.resolve_left h2
        have hrow := hrow.resolve_left h2
        have hlow := HR.out.1
        obtain ⟨xb, hxb⟩ : ∃ z, z = γ 1 := ⟨_, rfl⟩
        rw [← hxb] at q1 x1 x2
        have XB := Lib.hid x2
        have RW := Lib.hid hrow
        have LW := Lib.hid hlow
        have X1 := Lib.hid x1
        have HXB := Lib.hid hxb
        have hzz := x2.lt
        have d0 : W.cell? ⟨xb, 0, none⟩ = some (.slice none 0 0) := x2.cell 0
        have d1 : W.cell? ⟨xb, 1, none⟩ = some (.slice none 0 0) := x2.cell 1
        have fz : ∀ o, W.frozen? ⟨xb, o, none⟩ = false := fun o => x2.frozen o
        clear x1 x2 hrow hlow hpre hx hxb
        go_simp
        refine hK undef _ (fun i => if i = 0 then 2 else γ i) ⟨?_, fun _ => ⟨g', c', ?_, ?_, ?_⟩⟩ (fun j u h1 h2 h3 => moPhi_2 h2 h3) (fun h => absurd rfl h) rfl
        · exact (LW.out.setCell X1.out _).setCell X1.out _
        · show Blk _ (γ 1) _ _
          rw [← HXB.out]
          exact (XB.out.set_ 0 _).set_ 1 _
        · show w2.heap.size ≤ γ 1
          rw [← HXB.out]
          exact X1.out
        · exact (RW.out.kept (grown_set W xb 0 _) (Or.inr (own_ne RW.out XB.out (by decide)).symm)).kept (grown_set _ xb 1 _) (Or.inr (own_ne RW.out XB.out (by decide)).symm)
    · intro vs w' γ hvl hR hφ
      have q6 := hφ 6 (by decide)
      have q7 : γ 0 = 2 := hφ 7 (by decide)
      have HR := Lib.hid hR
      clear hφ hR
      match vs, hvl with
      | [y0, y1, y2, y3, y4, y5, y6, y7], _ =>
      simp only [List.getD_cons_zero, List.getD_cons_succ] at q6
      obtain ⟨hR1, hR2⟩ := HR.out
      obtain ⟨cA, cc, hx, hxlow, hrow⟩ := hR2 q7
      replace q6 : y6 = _ := q6.1
      obtain ⟨xb, hxb⟩ : ∃ z, z = γ 1 := ⟨_, rfl⟩
      rw [← hxb] at q6 hx hxlow
      subst q6
      obtain ⟨w3, hw3⟩ : ∃ z, z = w' := ⟨_, rfl⟩
      rw [← hw3] at hR1 hx hrow ⊢
      rw [HBN.out] at hrow
      obtain ⟨A', c', cb, eA, hrw, hob⟩ := RowW.of_own hrow
      cases eA
      rw [← HBN.out] at hrow hob
      have HM0 : Hid (MoR w2 w3 xb cb 0 0 cA none none bn cc gn gc gA (accTo (zipF moreB) l4 bs 0) [] []) := Lib.hid ⟨hR1, hx, by rw [accTo_zero]; exact hrw, Or.inl rfl, Or.inl rfl, fun h => by rw [accTo_zero] at h; exact (hob (by rw [HBN.out]; exact List.length_pos_iff.2 h)).1, fun h => absurd rfl h, fun h => absurd rfl h⟩
      clear hR1 hR2 hx hxlow hrow hrw hob hxb hw3 HR q7 hvl
      have c0 : w3.cell? ⟨xb, 0, none⟩ = some (.slice cA bn cc) := HM0.out.box.cell 0
      have z1 := HM0.out.box.lt
      have hbn4 : bn ≤ 4 := by have := HMD.out.1; have := HBN.out; omega
      simp [putAll]
      go_wp2
      clear c0 z1
      go_loopw [50] (fun i wr => ∃ k : Nat, k ≤ bn ∧ i = .int .i64 k ∧ Hid (MoR w2 wr xb cb 0 0 cA none none bn cc gn gc gA (accTo (zipF moreB) l4 bs k) [] [])) (fun i _ => bn - (intOf i).toNat)
      case atStart => exact ⟨0, by omega, rfl, HM0⟩
      case round =>
        clear HM0
        obtain ⟨k, hk, rfl, hM⟩ := hrel
        have c0 : wr.cell? ⟨xb, 0, none⟩ = some (.slice cA bn cc) := hM.out.box.cell 0
        have z1 := hM.out.box.lt
        by_cases hlt : k < bn
        · have hkn : (k : Int) < (bn : Int) := by omega
          have hk0 : (0 : Int) ≤ (k : Int) := by omega
          by_cases hm : k < n4
          · have hkm : (k : Int) < (n4 : Int) := by omega
            have HKM := Lib.hid hm
            clear hm
            go_wp2
            have H4r := H4.out.below hM.out.low
            obtain ⟨mb, mo, m, e4, hmb, hml, hmc⟩ := H4r.at_ HKM.out
            obtain ⟨x, hbx⟩ : ∃ x, bs[k]? = some x := ⟨_, List.getElem?_eq_getElem (by rw [← HBN.out]; exact hlt)⟩
            have hxa : (accTo (zipF moreB) l4 bs k)[k]? = some x := accTo_at hbx
            obtain ⟨hcA, hcb, hfz, hcl⟩ := hM.out.rc.at_ Bat.enc_len hxa
            have HMC : Hid (wr.cell? ⟨mb, mo + k, none⟩ = some (.int .u8 m)) := Lib.hid (by simpa [encU] using hmc 0 _ rfl)
            have HC0 : Hid (wr.cell? ⟨cb, k * 4, none⟩ = some (.int .i64 x.energy)) := Lib.hid (hcl 0 _ rfl)
            have HC1 : Hid (wr.cell? ⟨cb, k * 4 + 1, none⟩ = some (.int .i64 x.full)) := Lib.hid (hcl 1 _ rfl)
            have HFZ : Hid (wr.frozen? ⟨cb, k * 4, none⟩ = false) := Lib.hid (hfz _)
            have HCB := Lib.hid hcb
            have HMB : Hid (mb < wr.heap.size) := Lib.hid (by have := hM.out.low.size; omega)
            have hmu := U4.out m (List.mem_of_getElem? hml)
            obtain ⟨⟨b1, b2, b3, b4, b5, b6, b7⟩, b8, b9, b10⟩ := HMD.out.2.2.1 x (List.mem_of_getElem? hbx)
            have hmd := md_en (f := x.full - x.energy) (by omega) hmu.1 hmu.2
            have v1 : IntKind.i64.wrap (x.full - x.energy) = x.full - x.energy := IntWalk.i64_in _ (by omega)
            have v2 : IntKind.i64.wrap m = m := IntWalk.i64_in _ (by omega)
            have v3 : IntKind.i64.wrap ((x.full - x.energy) * m) = (x.full - x.energy) * m := IntWalk.i64_in _ (by omega)
            have v4 : IntKind.i64.wrap (((x.full - x.energy) * m).tdiv 255) = ((x.full - x.energy) * m).tdiv 255 := IntWalk.i64_in _ (by omega)
            have v5 : IntKind.i64.wrap (x.energy + ((x.full - x.energy) * m).tdiv 255) = x.energy + ((x.full - x.energy) * m).tdiv 255 := IntWalk.i64_in _ (by omega)
            have HSET : Hid (accTo (zipF moreB) l4 bs (k + 1) = (accTo (zipF moreB) l4 bs k).set k (moreB m x)) := Lib.hid (zip_yes hbx hml)
            have HXA := Lib.hid hxa
            obtain ⟨en, hen⟩ : ∃ z, z = x.energy := ⟨_, rfl⟩
            obtain ⟨fu, hfu⟩ : ∃ z, z = x.full := ⟨_, rfl⟩
            have HEN : Hid (moreB m x = { x with energy := en + ((fu - en) * m).tdiv 255 }) := Lib.hid (by rw [hen, hfu]; rfl)
            rw [← hen, ← hfu] at v1 v3 v4 v5
            rw [← hen] at HC0
            rw [← hfu] at HC1
            have HBX := Lib.hid hM.out.box
            subst hcA
            subst e4
            clear H4r hmb hml hmc hbx hxa hcb hfz hcl hmu hmd b1 b2 b3 b4 b5 b6 b7 b8 b9 b10 hen hfu c0 z1
            refine wp_region_free10 29 (by kernel_rfl) [some 57, some 58, some 59, some 60, some 61, some 62, some 63, some 64, some 65, some 66, some 67, some 68, some 69, some 70, some 71, some 72, some 73, some 74, some 75, some 76, some 77, some 78, some 79, some 80, some 81, some 82, some 83, some 84, some 85, none] [[], [0], [], [1, 2], [3], [4], [], [6], [], [7, 8], [9], [10], [], [12], [], [13, 14], [15], [16], [11, 17], [], [], [19, 20], [21], [22], [18, 23], [24], [5, 25], [1, 2, 0, 1, 2, 3, 4, 5, 6, 7, 8, 9, 10, 11, 12, 13, 14, 15, 16, 17, 18, 19, 20, 21, 22, 23, 24, 25, 26], [27, 0, 1, 2, 3, 4, 5, 6, 7, 8, 9, 10, 11, 12, 13, 14, 15, 16, 17, 18, 19, 20, 21, 22, 23, 24, 25, 26], [28, 26, 0, 1, 2, 3, 4, 5, 6, 7, 8, 9, 10, 11, 12, 13, 14, 15, 16, 17, 18, 19, 20, 21, 22, 23, 24, 25, 26]] [(16, .pointer (some ⟨xb, 0, none⟩)), (17, .int .i64 (k : Int)), (3, .slice (some ⟨mb, mo, none⟩) n4 c4)] (fun W γ => (γ 0 = 0 → Below wr.heap.size wr W) ∧ (γ 0 = 2 → ∃ W0, Below wr.heap.size wr W0 ∧ W = W0.setCell ⟨cb, k * 4, none⟩ (.int .i64 (en + ((fu - en) * m).tdiv 255)))) (mo8 xb cb cc bn k en fu mb mo n4 c4 m) (fun _ _ γ => γ 0 = 0) (by kernel_rfl) (by kernel_rfl) rfl (by kernel_rfl) ?_ ?_ ⟨fun _ => 0, ⟨fun _ => (Below.refl _ _).drew, fun e => (by cases e)⟩, fun i _ => rfl⟩ ?_ ?_
            · intro z hz
              simp only [List.mem_cons, List.mem_nil_iff, or_false] at hz
              rcases hz with rfl | rfl | rfl
              all_goals exact ⟨by kernel_rfl, rfl⟩
            · intro i v W γ hi h
              rcases i with _ | _ | _ | _ | _ | _ | _ | _ | _ | _ | _ | _ | _ | _ | _ | _ | _ | _ | _ | _ | _ | _ | _ | _ | _ | _ | _ | _ | _ | _ | i
              all_goals first | exact h | (simp at hi)
            · refine ⟨?_, ?_, ?_, ?_, ?_, ?_, ?_, ?_, ?_, ?_, ?_, ?_, ?_, ?_, ?_, ?_, ?_, ?_, ?_, ?_, ?_, ?_, ?_, ?_, ?_, ?_, ?_, ?_, ?_, ?_, trivial⟩
              all_goals
                intro a W γ ev hcc hff hfx hR hψ hpre
                simp only [List.mem_cons, List.mem_nil_iff, or_false, forall_eq, forall_eq_or_imp] at hfx
                obtain ⟨f0, f1, f2⟩ := hfx
                have HR := Lib.hid hR
                clear hR
                refine ⟨fun _ K hK => ?_, trivial⟩

              · clear hpre hψ
                go_simp
                exact hK _ _ γ HR.out (fun _ _ _ _ h => h) (fun _ _ _ h => h) rfl
              · have q0 : ev (.tmp 57) = _ := hpre 0 (by decide)
                have hlo := HR.out.1 hψ
                have hz_x : xb < W.heap.size := Nat.lt_of_lt_of_le HBX.out.lt hlo.size
                have hc_x : W.cell? ⟨xb, 0, none⟩ = some (.slice (some ⟨cb, 0, none⟩) bn cc) := (hlo.cell (p := ⟨xb, 0, none⟩) HBX.out.lt).trans (HBX.out.cell 0)
                clear hlo
                clear hpre hψ
                go_simp
                exact hK _ _ γ HR.out (fun _ _ _ _ h => h) (fun _ _ _ h => h) rfl
              · clear hpre hψ
                go_simp
                exact hK _ _ γ HR.out (fun _ _ _ _ h => h) (fun _ _ _ h => h) rfl
              · have q0 : ev (.tmp 58) = _ := hpre 1 (by decide)
                have q1 : ev (.tmp 59) = _ := hpre 2 (by decide)
                clear hpre hψ
                go_simp
                exact hK _ _ γ HR.out (fun _ _ _ _ h => h) (fun _ _ _ h => h) rfl
              · have q0 : ev (.tmp 60) = _ := hpre 3 (by decide)
                clear hpre hψ
                go_simp
                exact hK _ _ γ HR.out (fun _ _ _ _ h => h) (fun _ _ _ h => h) rfl
              · have q0 : ev (.tmp 61) = _ := hpre 4 (by decide)
                have hlo := HR.out.1 hψ
                have hz_e : cb < W.heap.size := Nat.lt_of_lt_of_le HCB.out hlo.size
                have hc_e : W.cell? ⟨cb, k * 4, none⟩ = some (.int .i64 en) := (hlo.cell (p := ⟨cb, k * 4, none⟩) HCB.out).trans (HC0.out)
                clear hlo
                clear hpre hψ
                go_simp
                exact hK _ _ γ HR.out (fun _ _ _ _ h => h) (fun _ _ _ h => h) rfl
              · clear hpre hψ
                go_simp
                exact hK _ _ γ HR.out (fun _ _ _ _ h => h) (fun _ _ _ h => h) rfl
              · have q0 : ev (.tmp 63) = _ := hpre 6 (by decide)
                have hlo := HR.out.1 hψ
                have hz_x : xb < W.heap.size := Nat.lt_of_lt_of_le HBX.out.lt hlo.size
                have hc_x : W.cell? ⟨xb, 0, none⟩ = some (.slice (some ⟨cb, 0, none⟩) bn cc) := (hlo.cell (p := ⟨xb, 0, none⟩) HBX.out.lt).trans (HBX.out.cell 0)
                clear hlo
                clear hpre hψ
                go_simp
                exact hK _ _ γ HR.out (fun _ _ _ _ h => h) (fun _ _ _ h => h) rfl
              · clear hpre hψ
                go_simp
                exact hK _ _ γ HR.out (fun _ _ _ _ h => h) (fun _ _ _ h => h) rfl
              · have q0 : ev (.tmp 64) = _ := hpre 7 (by decide)
                have q1 : ev (.tmp 65) = _ := hpre 8 (by decide)
                clear hpre hψ
                go_simp
                exact hK _ _ γ HR.out (fun _ _ _ _ h => h) (fun _ _ _ h => h) rfl
              · have q0 : ev (.tmp 66) = _ := hpre 9 (by decide)
                clear hpre hψ
                go_simp
                exact hK _ _ γ HR.out (fun _ _ _ _ h => h) (fun _ _ _ h => h) rfl
              · have q0 : ev (.tmp 67) = _ := hpre 10 (by decide)
                have hlo := HR.out.1 hψ
                have hz_f : cb < W.heap.size := Nat.lt_of_lt_of_le HCB.out hlo.size
                have hc_f : W.cell? ⟨cb, k * 4 + 1, none⟩ = some (.int .i64 fu) := (hlo.cell (p := ⟨cb, k * 4 + 1, none⟩) HCB.out).trans (HC1.out)
                clear hlo
                clear hpre hψ
                go_simp
                exact hK _ _ γ HR.out (fun _ _ _ _ h => h) (fun _ _ _ h => h) rfl
              · clear hpre hψ
                go_simp
                exact hK _ _ γ HR.out (fun _ _ _ _ h => h) (fun _ _ _ h => h) rfl
              · have q0 : ev (.tmp 69) = _ := hpre 12 (by decide)
                have hlo := HR.out.1 hψ
                have hz_x : xb < W.heap.size := Nat.lt_of_lt_of_le HBX.out.lt hlo.size
                have hc_x : W.cell? ⟨xb, 0, none⟩ = some (.slice (some ⟨cb, 0, none⟩) bn cc) := (hlo.cell (p := ⟨xb, 0, none⟩) HBX.out.lt).trans (HBX.out.cell 0)
                clear hlo
                clear hpre hψ
                go_simp
                exact hK _ _ γ HR.out (fun _ _ _ _ h => h) (fun _ _ _ h => h) rfl
              · clear hpre hψ
                go_simp
                exact hK _ _ γ HR.out (fun _ _ _ _ h => h) (fun _ _ _ h => h) rfl
              · have q0 : ev (.tmp 70) = _ := hpre 13 (by decide)
                have q1 : ev (.tmp 71) = _ := hpre 14 (by decide)
                clear hpre hψ
                go_simp
                exact hK _ _ γ HR.out (fun _ _ _ _ h => h) (fun _ _ _ h => h) rfl
              · have q0 : ev (.tmp 72) = _ := hpre 15 (by decide)
                clear hpre hψ
                go_simp
                exact hK _ _ γ HR.out (fun _ _ _ _ h => h) (fun _ _ _ h => h) rfl
              · have q0 : ev (.tmp 73) = _ := hpre 16 (by decide)
                have hlo := HR.out.1 hψ
                have hz_e : cb < W.heap.size := Nat.lt_of_lt_of_le HCB.out hlo.size
                have hc_e : W.cell? ⟨cb, k * 4, none⟩ = some (.int .i64 en) := (hlo.cell (p := ⟨cb, k * 4, none⟩) HCB.out).trans (HC0.out)
                clear hlo
                clear hpre hψ
                go_simp
                exact hK _ _ γ HR.out (fun _ _ _ _ h => h) (fun _ _ _ h => h) rfl
              · have q0 : ev (.tmp 68) = _ := hpre 11 (by decide)
                have q1 : ev (.tmp 74) = _ := hpre 17 (by decide)
                clear hpre hψ
                go_simp
                exact hK _ _ γ HR.out (fun _ _ _ _ h => h) (fun _ _ _ h => h) rfl
              · clear hpre hψ
                go_simp
                exact hK _ _ γ HR.out (fun _ _ _ _ h => h) (fun _ _ _ h => h) rfl
              · clear hpre hψ
                go_simp
                exact hK _ _ γ HR.out (fun _ _ _ _ h => h) (fun _ _ _ h => h) rfl
              · have q0 : ev (.tmp 76) = _ := hpre 19 (by decide)
                have q1 : ev (.tmp 77) = _ := hpre 20 (by decide)
                clear hpre hψ
                go_simp
                exact hK _ _ γ HR.out (fun _ _ _ _ h => h) (fun _ _ _ h => h) rfl
              · have q0 : ev (.tmp 78) = _ := hpre 21 (by decide)
                have hlo := HR.out.1 hψ
                have hz_m : mb < W.heap.size := Nat.lt_of_lt_of_le HMB.out hlo.size
                have hc_m : W.cell? ⟨mb, mo + k, none⟩ = some (.int .u8 m) := (hlo.cell (p := ⟨mb, mo + k, none⟩) HMB.out).trans (HMC.out)
                clear hlo
                clear hpre hψ
                go_simp
                exact hK _ _ γ HR.out (fun _ _ _ _ h => h) (fun _ _ _ h => h) rfl
              · have q0 : ev (.tmp 79) = _ := hpre 22 (by decide)
                clear hpre hψ
                go_simp
                exact hK _ _ γ HR.out (fun _ _ _ _ h => h) (fun _ _ _ h => h) rfl
              · have q0 : ev (.tmp 75) = _ := hpre 18 (by decide)
                have q1 : ev (.tmp 80) = _ := hpre 23 (by decide)
                clear hpre hψ
                go_simp
                exact hK _ _ γ HR.out (fun _ _ _ _ h => h) (fun _ _ _ h => h) rfl
              · have q0 : ev (.tmp 81) = _ := hpre 24 (by decide)
                clear hpre hψ
                go_simp
                exact hK _ _ γ HR.out (fun _ _ _ _ h => h) (fun _ _ _ h => h) rfl
              · have q0 : ev (.tmp 62) = _ := hpre 5 (by decide)
                have q1 : ev (.tmp 82) = _ := hpre 25 (by decide)
                clear hpre hψ
                go_simp
                exact hK _ _ γ HR.out (fun _ _ _ _ h => h) (fun _ _ _ h => h) rfl
              · have q0 : ev (.tmp 58) = _ := hpre 1 (by decide)
                have q1 : ev (.tmp 59) = _ := hpre 2 (by decide)
                clear hpre hψ
                go_simp
                exact hK _ _ γ HR.out (fun _ _ _ _ h => h) (fun _ _ _ h => h) rfl
              · have q0 : ev (.tmp 84) = _ := hpre 27 (by decide)
                clear hpre hψ
                go_simp
                exact hK _ _ γ HR.out (fun _ _ _ _ h => h) (fun _ _ _ h => h) rfl
              · have q0 : ev (.tmp 85) = _ := hpre 28 (by decide)
                have q1 : ev (.tmp 83) = _ := hpre 26 (by decide)
                have hlo := HR.out.1 hψ
                have hz_e : cb < W.heap.size := Nat.lt_of_lt_of_le HCB.out hlo.size
                have hc_e : W.cell? ⟨cb, k * 4, none⟩ = some (.int .i64 en) := (hlo.cell (p := ⟨cb, k * 4, none⟩) HCB.out).trans (HC0.out)
                have fz : W.frozen? ⟨cb, k * 4, none⟩ = false := (hlo.frozen (p := ⟨cb, k * 4, none⟩) HCB.out).trans HFZ.out
                have LW := Lib.hid hlo
                clear hpre hlo
                go_simp
                refine hK undef _ (fun _ => 2) ⟨fun e => (by cases e), fun _ => ⟨W, LW.out, rfl⟩⟩ (fun j u h1 h2 h3 => mo8_2 h2 h3) (fun h => absurd rfl h) rfl
            · intro vs w' γ hvl hR hφ
              have q2 : γ 0 = 2 := hφ 29 (by decide)
              have HR := Lib.hid hR
              clear hφ hR
              match vs, hvl with
              | y0 :: y1 :: y2 :: y3 :: y4 :: y5 :: y6 :: y7 :: y8 :: y9 :: y10 :: y11 :: y12 :: y13 :: y14 :: y15 :: y16 :: y17 :: y18 :: y19 :: y20 :: y21 :: y22 :: y23 :: y24 :: y25 :: y26 :: y27 :: y28 :: y29 :: [], _ =>
              obtain ⟨W0, hB0, hW0⟩ := HR.out.2 q2
              have hm1 := (hM.out.next hB0).setC (x' := moreB m x) (u := .int .i64 (en + ((fu - en) * m).tdiv 255)) HXA.out (by rw [HEN.out]; rfl)
              rw [← hW0, ← HSET.out] at hm1
              have HM1 := Lib.hid hm1
              clear hW0 hB0 hm1 HR q2 hvl
              simp [putAll]
              go_wp2
              go_roundw
              case rel => exact ⟨k + 1, by omega, by go_num, HM1⟩
              case measure => simp [intOf]; omega
          · have hkm : ¬ (k : Int) < (n4 : Int) := by omega
            have hkm2 : decide ((k : Int) < (n4 : Int)) = false := decide_eq_false hkm
            have HNO : Hid (accTo (zipF moreB) l4 bs (k + 1) = accTo (zipF moreB) l4 bs k) := Lib.hid (zip_no (by rw [← HBN.out]; exact hlt) (by rw [Z4.out]; omega))
            clear hm
            go_wp2
            go_roundw
            case rel => exact ⟨k + 1, by omega, by go_num, by rw [HNO.out]; exact hM⟩
            case measure => simp [intOf]; omega
        · obtain rfl : bn = k := by omega
          obtain ⟨cs, hcs⟩ : ∃ z, z = (accL (zipF moreB) l4 bs).1 := ⟨_, rfl⟩
          have hM1 : MoR w2 wr xb cb 0 0 cA none none bn cc gn gc gA cs [] [] := by
            have h := hM.out
            rw [HBN.out, accTo_end, ← hcs, ← HBN.out] at h
            exact h
          have HCS := Lib.hid hcs
          have HM1 := Lib.hid hM1
          have C1 := Lib.hid (clone_spns lA L.length lc L wr (HIN.out.load.next hM1.low) (by have := HLS.out.1; omega))
          clear hM hM1 hcs c0 z1 hlt hk
          go_wp2_with fail
          refine C1.out.mono ?_
          rintro e w5 ⟨sA, sc, rfl, hrow5, hB5, _⟩
          obtain ⟨A', c', sb, eA, hrw5, hob5⟩ := RowW.of_own hrow5
          cases eA
          have hM5 := HM1.out.next hB5
          have C2 := Lib.hid (clone_ints fA gn fc fs w5 (HFR.out.next hM5.low) (by have := HMD.out.2.1; have := HGN.out; omega))
          have hs5 := HM1.out.low.size
          have HBS : Hid (L ≠ [] → w2.heap.size ≤ sb) := Lib.hid (fun h => by have := (hob5 (List.length_pos_iff.2 h)).1; omega)
          have HR5 := Lib.hid hrw5
          have HM5 := Lib.hid hM5
          clear hrow5 hrw5 hob5 hM5 hB5 hs5 HM1 C1
          go_wp2_with fail
          refine C2.out.mono ?_
          rintro e w6 ⟨tA, tc, rfl, hrow6, hB6, _⟩
          have hfl : fs.length = gn := by rw [OKF.out.1, HGN.out]
          rw [← hfl] at hrow6
          obtain ⟨A', c', tb, eA, hrw6, hob6⟩ := RowW.of_own hrow6
          cases eA
          have hs6 := HM5.out.low.size
          obtain ⟨ln, hln⟩ : ∃ z, z = L.length := ⟨_, rfl⟩
          have HLN := Lib.hid hln
          have hln8 : ln ≤ 8 := by rw [hln]; exact HLS.out.1
          have hgn3 : gn ≤ 3 := by have := HMD.out.2.1; have := HGN.out; omega
          have hm6 := HM5.out.next hB6
          have HM6 : Hid (MoR w2 w6 xb cb sb tb cA sA tA bn cc gn gc gA cs (accTo (zipF lessS) l5 L 0) fs) := Lib.hid ⟨hm6.low, hm6.box, hm6.rc, by rw [accTo_zero]; exact HR5.out.kept fun _ _ k => k.below hB6 k.lt, hrw6, hm6.bc, fun h => HBS.out (by rw [accTo_zero] at h; exact h), fun h => by have := (hob6 (List.length_pos_iff.2 h)).1; omega⟩
          have HFL := Lib.hid hfl
          rw [← hln]
          clear hrow6 hrw6 hob6 hm6 hB6 hs6 HM5 C2 HBS HR5 hln hfl
          go_wp2
          go_loopw [93] (fun i wr => ∃ k : Nat, k ≤ ln ∧ i = .int .i64 k ∧ Hid (MoR w2 wr xb cb sb tb cA sA tA bn cc gn gc gA cs (accTo (zipF lessS) l5 L k) fs)) (fun i _ => ln - (intOf i).toNat)
          case atStart => exact ⟨0, by omega, rfl, HM6⟩
          case round =>
            clear HM6
            obtain ⟨k, hk, rfl, hM⟩ := hrel
            by_cases hlt : k < ln
            · have hkn : (k : Int) < (ln : Int) := by omega
              have hk0 : (0 : Int) ≤ (k : Int) := by omega
              by_cases hm : k < n5
              · have hkm : (k : Int) < (n5 : Int) := by omega
                have HKM := Lib.hid hm
                clear hm
                go_wp2
                have H5r := H5.out.below hM.out.low
                obtain ⟨mb, mo, m, e4, hmb, hml, hmc⟩ := H5r.at_ HKM.out
                obtain ⟨x, hbx⟩ : ∃ x, L[k]? = some x := ⟨_, List.getElem?_eq_getElem (by rw [← HLN.out]; exact hlt)⟩
                have hxa : (accTo (zipF lessS) l5 L k)[k]? = some x := accTo_at hbx
                obtain ⟨hcA, hcb, hfz, hcl⟩ := hM.out.rs.at_ Spn.enc_len hxa
                have HMC : Hid (wr.cell? ⟨mb, mo + k, none⟩ = some (.int .u8 m)) := Lib.hid (by simpa [encU] using hmc 0 _ rfl)
                have HC0 : Hid (wr.cell? ⟨sb, k * 2 + 1, none⟩ = some (.int .i64 x.power)) := Lib.hid (hcl 1 _ rfl)
                have HFZ : Hid (wr.frozen? ⟨sb, k * 2 + 1, none⟩ = false) := Lib.hid (hfz _)
                have HCB := Lib.hid hcb
                have HMB : Hid (mb < wr.heap.size) := Lib.hid (by have := hM.out.low.size; omega)
                have hmu := U5.out m (List.mem_of_getElem? hml)
                obtain ⟨b1, b2, b3, b4⟩ := HLS.out.2 x (List.mem_of_getElem? hbx)
                have hmd := md_en (f := x.power) b3 hmu.1 hmu.2
                have v2 : IntKind.i64.wrap m = m := IntWalk.i64_in _ (by omega)
                have v3 : IntKind.i64.wrap (x.power * m) = x.power * m := IntWalk.i64_in _ (by omega)
                have v4 : IntKind.i64.wrap ((x.power * m).tdiv 255) = (x.power * m).tdiv 255 := IntWalk.i64_in _ (by omega)
                have v5 : IntKind.i64.wrap (x.power - (x.power * m).tdiv 255) = x.power - (x.power * m).tdiv 255 := IntWalk.i64_in _ (by omega)
                have HSET : Hid (accTo (zipF lessS) l5 L (k + 1) = (accTo (zipF lessS) l5 L k).set k (lessS m x)) := Lib.hid (zip_yes hbx hml)
                have HXA := Lib.hid hxa
                obtain ⟨pw, hpw⟩ : ∃ z, z = x.power := ⟨_, rfl⟩
                have HEN : Hid (lessS m x = { x with power := pw - (pw * m).tdiv 255 }) := Lib.hid (by rw [hpw]; rfl)
                rw [← hpw] at v3 v4 v5 HC0
                subst hcA
                subst e4
                clear H5r hmb hml hmc hbx hxa hcb hfz hcl hmu hmd b1 b2 b3 b4 hpw
                refine wp_region_free10 20 (by kernel_rfl) [some 100, some 101, some 102, some 103, some 104, some 105, some 106, some 107, some 108, some 109, some 110, some 111, some 112, some 113, some 114, some 115, some 116, some 117, some 118, some 119, none] [[], [], [0, 1], [2], [3], [], [], [5, 6], [7], [8], [], [], [10, 11], [12], [13], [9, 14], [15], [4, 16], [0, 1, 0, 1, 2, 3, 4, 5, 6, 7, 8, 9, 10, 11, 12, 13, 14, 15, 16, 17], [18, 0, 1, 2, 3, 4, 5, 6, 7, 8, 9, 10, 11, 12, 13, 14, 15, 16, 17], [19, 17, 0, 1, 2, 3, 4, 5, 6, 7, 8, 9, 10, 11, 12, 13, 14, 15, 16, 17]] [(18, .slice (some ⟨sb, 0, none⟩) ln sc), (20, .int .i64 (k : Int)), (4, .slice (some ⟨mb, mo, none⟩) n5 c5)] (fun W γ => (γ 0 = 0 → Below wr.heap.size wr W) ∧ (γ 0 = 2 → ∃ W0, Below wr.heap.size wr W0 ∧ W = W0.setCell ⟨sb, k * 2 + 1, none⟩ (.int .i64 (pw - (pw * m).tdiv 255)))) (mo15 sb sc ln k pw mb mo n5 c5 m) (fun _ _ γ => γ 0 = 0) (by kernel_rfl) (by kernel_rfl) rfl (by kernel_rfl) ?_ ?_ ⟨fun _ => 0, ⟨fun _ => (Below.refl _ _).drew, fun e => (by cases e)⟩, fun i _ => rfl⟩ ?_ ?_
                · intro z hz
                  simp only [List.mem_cons, List.mem_nil_iff, or_false] at hz
                  rcases hz with rfl | rfl | rfl
                  all_goals exact ⟨by kernel_rfl, rfl⟩
                · intro i v W γ hi h
                  rcases i with _ | _ | _ | _ | _ | _ | _ | _ | _ | _ | _ | _ | _ | _ | _ | _ | _ | _ | _ | _ | _ | i
                  all_goals first | exact h | (simp at hi)
                · refine ⟨?_, ?_, ?_, ?_, ?_, ?_, ?_, ?_, ?_, ?_, ?_, ?_, ?_, ?_, ?_, ?_, ?_, ?_, ?_, ?_, ?_, trivial⟩
                  all_goals
                    intro a W γ ev hcc hff hfx hR hψ hpre
                    simp only [List.mem_cons, List.mem_nil_iff, or_false, forall_eq, forall_eq_or_imp] at hfx
                    obtain ⟨f0, f1, f2⟩ := hfx
                    have HR := Lib.hid hR
                    clear hR
                    refine ⟨fun _ K hK => ?_, trivial⟩

                  · clear hpre hψ
                    go_simp
                    exact hK _ _ γ HR.out (fun _ _ _ _ h => h) (fun _ _ _ h => h) rfl
                  · clear hpre hψ
                    go_simp
                    exact hK _ _ γ HR.out (fun _ _ _ _ h => h) (fun _ _ _ h => h) rfl
                  · have q0 : ev (.tmp 100) = _ := hpre 0 (by decide)
                    have q1 : ev (.tmp 101) = _ := hpre 1 (by decide)
                    clear hpre hψ
                    go_simp
                    exact hK _ _ γ HR.out (fun _ _ _ _ h => h) (fun _ _ _ h => h) rfl
                  · have q0 : ev (.tmp 102) = _ := hpre 2 (by decide)
                    clear hpre hψ
                    go_simp
                    exact hK _ _ γ HR.out (fun _ _ _ _ h => h) (fun _ _ _ h => h) rfl
                  · have q0 : ev (.tmp 103) = _ := hpre 3 (by decide)
                    have hlo := HR.out.1 hψ
                    have hz_e : sb < W.heap.size := Nat.lt_of_lt_of_le HCB.out hlo.size
                    have hc_e : W.cell? ⟨sb, k * 2 + 1, none⟩ = some (.int .i64 pw) := (hlo.cell (p := ⟨sb, k * 2 + 1, none⟩) HCB.out).trans (HC0.out)
                    clear hlo
                    clear hpre hψ
                    go_simp
                    exact hK _ _ γ HR.out (fun _ _ _ _ h => h) (fun _ _ _ h => h) rfl
                  · clear hpre hψ
                    go_simp
                    exact hK _ _ γ HR.out (fun _ _ _ _ h => h) (fun _ _ _ h => h) rfl
                  · clear hpre hψ
                    go_simp
                    exact hK _ _ γ HR.out (fun _ _ _ _ h => h) (fun _ _ _ h => h) rfl
                  · have q0 : ev (.tmp 105) = _ := hpre 5 (by decide)
                    have q1 : ev (.tmp 106) = _ := hpre 6 (by decide)
                    clear hpre hψ
                    go_simp
                    exact hK _ _ γ HR.out (fun _ _ _ _ h => h) (fun _ _ _ h => h) rfl
                  · have q0 : ev (.tmp 107) = _ := hpre 7 (by decide)
                    clear hpre hψ
                    go_simp
                    exact hK _ _ γ HR.out (fun _ _ _ _ h => h) (fun _ _ _ h => h) rfl
                  · have q0 : ev (.tmp 108) = _ := hpre 8 (by decide)
                    have hlo := HR.out.1 hψ
                    have hz_e : sb < W.heap.size := Nat.lt_of_lt_of_le HCB.out hlo.size
                    have hc_e : W.cell? ⟨sb, k * 2 + 1, none⟩ = some (.int .i64 pw) := (hlo.cell (p := ⟨sb, k * 2 + 1, none⟩) HCB.out).trans (HC0.out)
                    clear hlo
                    clear hpre hψ
                    go_simp
                    exact hK _ _ γ HR.out (fun _ _ _ _ h => h) (fun _ _ _ h => h) rfl
                  · clear hpre hψ
                    go_simp
                    exact hK _ _ γ HR.out (fun _ _ _ _ h => h) (fun _ _ _ h => h) rfl
                  · clear hpre hψ
                    go_simp
                    exact hK _ _ γ HR.out (fun _ _ _ _ h => h) (fun _ _ _ h => h) rfl
                  · have q0 : ev (.tmp 110) = _ := hpre 10 (by decide)
                    have q1 : ev (.tmp 111) = _ := hpre 11 (by decide)
                    clear hpre hψ
                    go_simp
                    exact hK _ _ γ HR.out (fun _ _ _ _ h => h) (fun _ _ _ h => h) rfl
                  · have q0 : ev (.tmp 112) = _ := hpre 12 (by decide)
                    have hlo := HR.out.1 hψ
                    have hz_m : mb < W.heap.size := Nat.lt_of_lt_of_le HMB.out hlo.size
                    have hc_m : W.cell? ⟨mb, mo + k, none⟩ = some (.int .u8 m) := (hlo.cell (p := ⟨mb, mo + k, none⟩) HMB.out).trans (HMC.out)
                    clear hlo
                    clear hpre hψ
                    go_simp
                    exact hK _ _ γ HR.out (fun _ _ _ _ h => h) (fun _ _ _ h => h) rfl
                  · have q0 : ev (.tmp 113) = _ := hpre 13 (by decide)
                    clear hpre hψ
                    go_simp
                    exact hK _ _ γ HR.out (fun _ _ _ _ h => h) (fun _ _ _ h => h) rfl
                  · have q0 : ev (.tmp 109) = _ := hpre 9 (by decide)
                    have q1 : ev (.tmp 114) = _ := hpre 14 (by decide)
                    clear hpre hψ
                    go_simp
                    exact hK _ _ γ HR.out (fun _ _ _ _ h => h) (fun _ _ _ h => h) rfl
                  · have q0 : ev (.tmp 115) = _ := hpre 15 (by decide)
                    clear hpre hψ
                    go_simp
                    exact hK _ _ γ HR.out (fun _ _ _ _ h => h) (fun _ _ _ h => h) rfl
                  · have q0 : ev (.tmp 104) = _ := hpre 4 (by decide)
                    have q1 : ev (.tmp 116) = _ := hpre 16 (by decide)
                    clear hpre hψ
                    go_simp
                    exact hK _ _ γ HR.out (fun _ _ _ _ h => h) (fun _ _ _ h => h) rfl
                  · have q0 : ev (.tmp 100) = _ := hpre 0 (by decide)
                    have q1 : ev (.tmp 101) = _ := hpre 1 (by decide)
                    clear hpre hψ
                    go_simp
                    exact hK _ _ γ HR.out (fun _ _ _ _ h => h) (fun _ _ _ h => h) rfl
                  · have q0 : ev (.tmp 118) = _ := hpre 18 (by decide)
                    clear hpre hψ
                    go_simp
                    exact hK _ _ γ HR.out (fun _ _ _ _ h => h) (fun _ _ _ h => h) rfl
                  · have q0 : ev (.tmp 119) = _ := hpre 19 (by decide)
                    have q1 : ev (.tmp 117) = _ := hpre 17 (by decide)
                    have hlo := HR.out.1 hψ
                    have hz_e : sb < W.heap.size := Nat.lt_of_lt_of_le HCB.out hlo.size
                    have hc_e : W.cell? ⟨sb, k * 2 + 1, none⟩ = some (.int .i64 pw) := (hlo.cell (p := ⟨sb, k * 2 + 1, none⟩) HCB.out).trans (HC0.out)
                    have fz : W.frozen? ⟨sb, k * 2 + 1, none⟩ = false := (hlo.frozen (p := ⟨sb, k * 2 + 1, none⟩) HCB.out).trans HFZ.out
                    have LW := Lib.hid hlo
                    clear hpre hlo
                    go_simp
                    refine hK undef _ (fun _ => 2) ⟨fun e => (by cases e), fun _ => ⟨W, LW.out, rfl⟩⟩ (fun j u h1 h2 h3 => mo15_2 h2 h3) (fun h => absurd rfl h) rfl
                · intro vs w' γ hvl hR hφ
                  have q2 : γ 0 = 2 := hφ 20 (by decide)
                  have HR := Lib.hid hR
                  clear hφ hR
                  match vs, hvl with
                  | y0 :: y1 :: y2 :: y3 :: y4 :: y5 :: y6 :: y7 :: y8 :: y9 :: y10 :: y11 :: y12 :: y13 :: y14 :: y15 :: y16 :: y17 :: y18 :: y19 :: y20 :: [], _ =>
                  obtain ⟨W0, hB0, hW0⟩ := HR.out.2 q2
                  have hm1 := (hM.out.next hB0).setS (x' := lessS m x) (u := .int .i64 (pw - (pw * m).tdiv 255)) HXA.out (by rw [HEN.out]; rfl)
                  rw [← hW0, ← HSET.out] at hm1
                  have HM1 := Lib.hid hm1
                  clear hW0 hB0 hm1 HR q2 hvl
                  simp [putAll]
                  go_wp2
                  go_roundw
                  case rel => exact ⟨k + 1, by omega, by go_num, HM1⟩
                  case measure => simp [intOf]; omega
              · have hkm : ¬ (k : Int) < (n5 : Int) := by omega
                have hkm2 : decide ((k : Int) < (n5 : Int)) = false := decide_eq_false hkm
                have HNO : Hid (accTo (zipF lessS) l5 L (k + 1) = accTo (zipF lessS) l5 L k) := Lib.hid (zip_no (by rw [← HLN.out]; exact hlt) (by rw [Z5.out]; omega))
                clear hm
                go_wp2
                go_roundw
                case rel => exact ⟨k + 1, by omega, by go_num, by rw [HNO.out]; exact hM⟩
                case measure => simp [intOf]; omega
            · obtain rfl : ln = k := by omega
              obtain ⟨L2, hL2⟩ : ∃ z, z = (accL (zipF lessS) l5 L).1 := ⟨_, rfl⟩
              have HM7 : Hid (MoR w2 wr xb cb sb tb cA sA tA bn cc gn gc gA cs L2 (accTo (zipF fewI) l6 fs 0)) := by
                have h := hM.out
                rw [HLN.out, accTo_end, ← hL2] at h
                rw [accTo_zero]
                exact Lib.hid h
              have HL2E := Lib.hid hL2
              clear hM hL2 hlt hk
              go_wp2
              go_loopw [123] (fun i wr => ∃ k : Nat, k ≤ gn ∧ i = .int .i64 k ∧ Hid (MoR w2 wr xb cb sb tb cA sA tA bn cc gn gc gA cs L2 (accTo (zipF fewI) l6 fs k))) (fun i _ => gn - (intOf i).toNat)
              case atStart => exact ⟨0, by omega, rfl, HM7⟩
              case round =>
                clear HM7
                obtain ⟨k, hk, rfl, hM⟩ := hrel
                by_cases hlt : k < gn
                · have hkn : (k : Int) < (gn : Int) := by omega
                  have hk0 : (0 : Int) ≤ (k : Int) := by omega
                  by_cases hm : k < n6
                  · have hkm : (k : Int) < (n6 : Int) := by omega
                    have HKM := Lib.hid hm
                    clear hm
                    go_wp2
                    have H6r := H6.out.below hM.out.low
                    obtain ⟨mb, mo, m, e4, hmb, hml, hmc⟩ := H6r.at_ HKM.out
                    obtain ⟨f, hbx⟩ : ∃ x, fs[k]? = some x := ⟨_, List.getElem?_eq_getElem (by rw [HFL.out]; exact hlt)⟩
                    have hxa : (accTo (zipF fewI) l6 fs k)[k]? = some f := accTo_at hbx
                    obtain ⟨hcA, hcb, hfz, hcl⟩ := RowW.at_ (size := 1) (f := encI) (fun _ => rfl) hM.out.rf hxa
                    have HMC : Hid (wr.cell? ⟨mb, mo + k, none⟩ = some (.int .u8 m)) := Lib.hid (by simpa [encU] using hmc 0 _ rfl)
                    have HC0 : Hid (wr.cell? ⟨tb, k, none⟩ = some (.int .i64 f)) := Lib.hid (by simpa [encI] using hcl 0 _ rfl)
                    have HFZ : Hid (wr.frozen? ⟨tb, k, none⟩ = false) := Lib.hid (hfz _)
                    have HCB := Lib.hid hcb
                    have HMB : Hid (mb < wr.heap.size) := Lib.hid (by have := hM.out.low.size; omega)
                    have hmu := U6.out m (List.mem_of_getElem? hml)
                    have hfb := OKF.out.bd OKA.out.gen f (List.mem_of_getElem? hbx)
                    have htm := tmod_bd (n := f + 1) hmu.1 (by omega)
                    have v2 : IntKind.i64.wrap m = m := IntWalk.i64_in _ (by omega)
                    have v3 : IntKind.i64.wrap (f + 1) = f + 1 := IntWalk.i64_in _ (by omega)
                    have v4 : IntKind.i64.wrap (m.tmod (f + 1)) = m.tmod (f + 1) := IntWalk.i64_in _ (by omega)
                    have v5 : IntKind.i64.wrap (f - m.tmod (f + 1)) = f - m.tmod (f + 1) := IntWalk.i64_in _ (by omega)
                    have v6 : ¬ f + 1 = 0 := by omega
                    have v7 : ¬ f + 1 = -1 := by omega
                    have HSET : Hid (accTo (zipF fewI) l6 fs (k + 1) = (accTo (zipF fewI) l6 fs k).set k (fewI m f)) := Lib.hid (zip_yes hbx hml)
                    have HXA := Lib.hid hxa
                    subst hcA
                    subst e4
                    clear H6r hmb hml hmc hbx hxa hcb hfz hcl hmu hfb htm
                    refine wp_region_free10 17 (by kernel_rfl) [some 130, some 131, some 132, some 133, some 134, some 135, some 136, some 137, some 138, some 139, some 140, some 141, some 142, some 143, some 144, some 145, some 146, none] [[], [], [0, 1], [2], [], [], [4, 5], [6], [7], [], [], [9, 10], [11], [12], [8, 13], [3, 14], [0, 1, 0, 1, 2, 3, 4, 5, 6, 7, 8, 9, 10, 11, 12, 13, 14, 15], [16, 15, 0, 1, 2, 3, 4, 5, 6, 7, 8, 9, 10, 11, 12, 13, 14, 15]] [(19, .slice (some ⟨tb, 0, none⟩) gn tc), (21, .int .i64 (k : Int)), (5, .slice (some ⟨mb, mo, none⟩) n6 c6)] (fun W γ => (γ 0 = 0 → Below wr.heap.size wr W) ∧ (γ 0 = 2 → ∃ W0, Below wr.heap.size wr W0 ∧ W = W0.setCell ⟨tb, k, none⟩ (.int .i64 (f - m.tmod (f + 1))))) (mo21 tb tc gn k f mb mo n6 c6 m) (fun _ _ γ => γ 0 = 0) (by kernel_rfl) (by kernel_rfl) rfl (by kernel_rfl) ?_ ?_ ⟨fun _ => 0, ⟨fun _ => (Below.refl _ _).drew, fun e => (by cases e)⟩, fun i _ => rfl⟩ ?_ ?_
                    · intro z hz
                      simp only [List.mem_cons, List.mem_nil_iff, or_false] at hz
                      rcases hz with rfl | rfl | rfl
                      all_goals exact ⟨by kernel_rfl, rfl⟩
                    · intro i v W γ hi h
                      rcases i with _ | _ | _ | _ | _ | _ | _ | _ | _ | _ | _ | _ | _ | _ | _ | _ | _ | _ | i
                      all_goals first | exact h | (simp at hi)
                    · refine ⟨?_, ?_, ?_, ?_, ?_, ?_, ?_, ?_, ?_, ?_, ?_, ?_, ?_, ?_, ?_, ?_, ?_, ?_, trivial⟩
                      all_goals
                        intro a W γ ev hcc hff hfx hR hψ hpre
                        simp only [List.mem_cons, List.mem_nil_iff, or_false, forall_eq, forall_eq_or_imp] at hfx
                        obtain ⟨f0, f1, f2⟩ := hfx
                        have HR := Lib.hid hR
                        clear hR
                        refine ⟨fun _ K hK => ?_, trivial⟩

                      · clear hpre hψ
                        go_simp
                        exact hK _ _ γ HR.out (fun _ _ _ _ h => h) (fun _ _ _ h => h) rfl
                      · clear hpre hψ
                        go_simp
                        exact hK _ _ γ HR.out (fun _ _ _ _ h => h) (fun _ _ _ h => h) rfl
                      · have q0 : ev (.tmp 130) = _ := hpre 0 (by decide)
                        have q1 : ev (.tmp 131) = _ := hpre 1 (by decide)
                        clear hpre hψ
                        go_simp
                        exact hK _ _ γ HR.out (fun _ _ _ _ h => h) (fun _ _ _ h => h) rfl
                      · have q0 : ev (.tmp 132) = _ := hpre 2 (by decide)
                        have hlo := HR.out.1 hψ
                        have hz_e : tb < W.heap.size := Nat.lt_of_lt_of_le HCB.out hlo.size
                        have hc_e : W.cell? ⟨tb, k, none⟩ = some (.int .i64 f) := (hlo.cell (p := ⟨tb, k, none⟩) HCB.out).trans (HC0.out)
                        clear hlo
                        clear hpre hψ
                        go_simp
                        exact hK _ _ γ HR.out (fun _ _ _ _ h => h) (fun _ _ _ h => h) rfl
                      · clear hpre hψ
                        go_simp
                        exact hK _ _ γ HR.out (fun _ _ _ _ h => h) (fun _ _ _ h => h) rfl
                      · clear hpre hψ
                        go_simp
                        exact hK _ _ γ HR.out (fun _ _ _ _ h => h) (fun _ _ _ h => h) rfl
                      · have q0 : ev (.tmp 134) = _ := hpre 4 (by decide)
                        have q1 : ev (.tmp 135) = _ := hpre 5 (by decide)
                        clear hpre hψ
                        go_simp
                        exact hK _ _ γ HR.out (fun _ _ _ _ h => h) (fun _ _ _ h => h) rfl
                      · have q0 : ev (.tmp 136) = _ := hpre 6 (by decide)
                        have hlo := HR.out.1 hψ
                        have hz_m : mb < W.heap.size := Nat.lt_of_lt_of_le HMB.out hlo.size
                        have hc_m : W.cell? ⟨mb, mo + k, none⟩ = some (.int .u8 m) := (hlo.cell (p := ⟨mb, mo + k, none⟩) HMB.out).trans (HMC.out)
                        clear hlo
                        clear hpre hψ
                        go_simp
                        exact hK _ _ γ HR.out (fun _ _ _ _ h => h) (fun _ _ _ h => h) rfl
                      · have q0 : ev (.tmp 137) = _ := hpre 7 (by decide)
                        clear hpre hψ
                        go_simp
                        exact hK _ _ γ HR.out (fun _ _ _ _ h => h) (fun _ _ _ h => h) rfl
                      · clear hpre hψ
                        go_simp
                        exact hK _ _ γ HR.out (fun _ _ _ _ h => h) (fun _ _ _ h => h) rfl
                      · clear hpre hψ
                        go_simp
                        exact hK _ _ γ HR.out (fun _ _ _ _ h => h) (fun _ _ _ h => h) rfl
                      · have q0 : ev (.tmp 139) = _ := hpre 9 (by decide)
                        have q1 : ev (.tmp 140) = _ := hpre 10 (by decide)
                        clear hpre hψ
                        go_simp
                        exact hK _ _ γ HR.out (fun _ _ _ _ h => h) (fun _ _ _ h => h) rfl
                      · have q0 : ev (.tmp 141) = _ := hpre 11 (by decide)
                        have hlo := HR.out.1 hψ
                        have hz_e : tb < W.heap.size := Nat.lt_of_lt_of_le HCB.out hlo.size
                        have hc_e : W.cell? ⟨tb, k, none⟩ = some (.int .i64 f) := (hlo.cell (p := ⟨tb, k, none⟩) HCB.out).trans (HC0.out)
                        clear hlo
                        clear hpre hψ
                        go_simp
                        exact hK _ _ γ HR.out (fun _ _ _ _ h => h) (fun _ _ _ h => h) rfl
                      · have q0 : ev (.tmp 142) = _ := hpre 12 (by decide)
                        clear hpre hψ
                        go_simp
                        exact hK _ _ γ HR.out (fun _ _ _ _ h => h) (fun _ _ _ h => h) rfl
                      · have q0 : ev (.tmp 138) = _ := hpre 8 (by decide)
                        have q1 : ev (.tmp 143) = _ := hpre 13 (by decide)
                        clear hpre hψ
                        go_simp
                        exact hK _ _ γ HR.out (fun _ _ _ _ h => h) (fun _ _ _ h => h) rfl
                      · have q0 : ev (.tmp 133) = _ := hpre 3 (by decide)
                        have q1 : ev (.tmp 144) = _ := hpre 14 (by decide)
                        clear hpre hψ
                        go_simp
                        exact hK _ _ γ HR.out (fun _ _ _ _ h => h) (fun _ _ _ h => h) rfl
                      · have q0 : ev (.tmp 130) = _ := hpre 0 (by decide)
                        have q1 : ev (.tmp 131) = _ := hpre 1 (by decide)
                        clear hpre hψ
                        go_simp
                        exact hK _ _ γ HR.out (fun _ _ _ _ h => h) (fun _ _ _ h => h) rfl
                      · have q0 : ev (.tmp 146) = _ := hpre 16 (by decide)
                        have q1 : ev (.tmp 145) = _ := hpre 15 (by decide)
                        have hlo := HR.out.1 hψ
                        have hz_e : tb < W.heap.size := Nat.lt_of_lt_of_le HCB.out hlo.size
                        have hc_e : W.cell? ⟨tb, k, none⟩ = some (.int .i64 f) := (hlo.cell (p := ⟨tb, k, none⟩) HCB.out).trans (HC0.out)
                        have fz : W.frozen? ⟨tb, k, none⟩ = false := (hlo.frozen (p := ⟨tb, k, none⟩) HCB.out).trans HFZ.out
                        have LW := Lib.hid hlo
                        clear hpre hlo
                        go_simp
                        refine hK undef _ (fun _ => 2) ⟨fun e => (by cases e), fun _ => ⟨W, LW.out, rfl⟩⟩ (fun j u h1 h2 h3 => mo21_2 h2 h3) (fun h => absurd rfl h) rfl
                    · intro vs w' γ hvl hR hφ
                      have q2 : γ 0 = 2 := hφ 17 (by decide)
                      have HR := Lib.hid hR
                      clear hφ hR
                      match vs, hvl with
                      | y0 :: y1 :: y2 :: y3 :: y4 :: y5 :: y6 :: y7 :: y8 :: y9 :: y10 :: y11 :: y12 :: y13 :: y14 :: y15 :: y16 :: y17 :: [], _ =>
                      obtain ⟨W0, hB0, hW0⟩ := HR.out.2 q2
                      have hm1 := (hM.out.next hB0).setF (x' := fewI m f) (u := .int .i64 (f - m.tmod (f + 1))) HXA.out rfl
                      rw [← hW0, ← HSET.out] at hm1
                      have HM1 := Lib.hid hm1
                      clear hW0 hB0 hm1 HR q2 hvl
                      simp [putAll]
                      go_wp2
                      go_roundw
                      case rel => exact ⟨k + 1, by omega, by go_num, HM1⟩
                      case measure => simp [intOf]; omega
                  · have hkm : ¬ (k : Int) < (n6 : Int) := by omega
                    have hkm2 : decide ((k : Int) < (n6 : Int)) = false := decide_eq_false hkm
                    have HNO : Hid (accTo (zipF fewI) l6 fs (k + 1) = accTo (zipF fewI) l6 fs k) := Lib.hid (zip_no (by rw [HFL.out]; exact hlt) (by rw [Z6.out]; omega))
                    clear hm
                    go_wp2
                    go_roundw
                    case rel => exact ⟨k + 1, by omega, by go_num, by rw [HNO.out]; exact hM⟩
                    case measure => simp [intOf]; omega
                · obtain rfl : gn = k := by omega
                  obtain ⟨w7, e7⟩ : ∃ x, x = wr := ⟨wr, rfl⟩
                  subst e7
                  obtain ⟨fs2, hfs2⟩ : ∃ z, z = (accL (zipF fewI) l6 fs).1 := ⟨_, rfl⟩
                  have hM8 : MoR w2 w7 xb cb sb tb cA sA tA bn cc gn gc gA cs L2 fs2 := by
                    have h := hM.out
                    rw [← HFL.out, accTo_end, ← hfs2, HFL.out] at h
                    exact h
                  have hgen : ∀ g ∈ gs, GenOk g := fun g hg => (HMD.out.2.2.2 g hg).1
                  have hfew := few_le (gs := gs) (fs := fs) (ms := l6) U6.out hgen OKF.out
                  rw [← hfs2] at hfew
                  have hcl : cs.length = bn := by rw [HCS.out, accL_len, HBN.out]
                  have hL2l : L2.length = ln := by rw [HL2E.out, accL_len, HLN.out]
                  have hf2l : fs2.length = gn := by rw [hfs2, accL_len, HFL.out]
                  have OKB : ArgsOk cs gs L2 := law_args (by have := hbn4; omega) HMD.out.2.1 (by rw [HCS.out]; exact zip_all (fun m a hm ha => moreB_ok hm ha) U4.out HMD.out.2.2.1) HMD.out.2.2.2 (by omega) (by rw [HL2E.out]; exact zip_all (fun m a hm ha => lessS_ok hm ha) U5.out HLS.out.2)
                  have hml := mono_is OKA.out OKB OKF.out hfew.2 (by rw [HCS.out]; exact more_le U4.out HMD.out.2.2.1) (by rw [HL2E.out]; exact less_le U5.out HLS.out.2) hfew.1
                  have HIN7 : Hid (ArgsIn w7 w7.heap.size bA bn bs gA gn gs lA ln L) := Lib.hid (by rw [HLN.out]; exact HIN.out.next hM8.low)
                  have HFR7 : Hid (Rd w7 w7.heap.size 1 encI fA gn fs) := Lib.hid (HFR.out.next hM8.low)
                  have HIN8 : Hid (ArgsIn w7 w7.heap.size cA bn cs gA gn gs sA ln L2) := Lib.hid ⟨hM8.rc.rd Bat.enc_len hcl, HIN7.out.gen, hM8.rs.rd Spn.enc_len hL2l⟩
                  have HFR8 : Hid (Rd w7 w7.heap.size 1 encI tA gn fs2) := Lib.hid (hM8.rf.rd (f := encI) (fun _ => rfl) hf2l)
                  have HBP7 := Lib.hid (HBP2.out.below hM8.low HBP2.out.lt)
                  have HXB7 := Lib.hid hM8.box
                  have HL7 := Lib.hid (below3 HL2.out hM8.low (Nat.le_refl _))
                  have KR1 := Lib.hid (fun W h1 h2 => run_b bA gA lA fA bn bc gn gc ln lc fc bs gs L fs HBN.out HGN.out W h1 h2 OKA.out OKF.out)
                  have KR2 := Lib.hid (fun W h1 h2 => run_b cA gA sA tA bn cc gn gc ln sc tc cs gs L2 fs2 hcl.symm HGN.out W h1 h2 OKB hfew.2)
                  have KT1 := Lib.hid (fun W h1 h2 => trace_any bA gA lA fA bn bc gn gc ln lc gn fc bs gs L fs W h1 h2 OKA.out OKF.out)
                  have KT2 := Lib.hid (fun W h1 h2 => trace_any cA gA sA tA bn cc gn gc ln sc gn tc cs gs L2 fs2 W h1 h2 OKB hfew.2)
                  obtain ⟨pre, hre⟩ := run_end OKA.out OKF.out
                  obtain ⟨D1, hD1⟩ : ∃ z, z = (runOf bs gs L fs).dark := ⟨_, rfl⟩
                  obtain ⟨s1, hs1⟩ : ∃ z, z = (runOf bs gs L fs).served := ⟨_, rfl⟩
                  obtain ⟨D2, hD2⟩ : ∃ z, z = (runOf cs gs L2 fs2).dark := ⟨_, rfl⟩
                  obtain ⟨s2, hs2⟩ : ∃ z, z = (runOf cs gs L2 fs2).served := ⟨_, rfl⟩
                  obtain ⟨rows1, hr1⟩ : ∃ z, z = traceL 0 (ply0 bs gs fs) (secsL L) := ⟨_, rfl⟩
                  obtain ⟨rows2, hr2⟩ : ∃ z, z = traceL 0 (ply0 cs gs fs2) (secsL L2) := ⟨_, rfl⟩
                  rw [← hD1, ← hs1] at KR1
                  rw [← hD2, ← hs2] at KR2
                  rw [← hr1, ← HBN.out] at KT1
                  rw [← hr2, hcl] at KT2
                  rw [← hD1, ← hD2, ← hr1, ← hr2] at hml
                  rw [← hr1] at hre
                  have HRL := Lib.hid hml.2
                  have HRK := Lib.hid (show ∀ r ∈ rows1, r.length = bn from fun r hr => by rw [(hre.ok r hr).1, HBN.out])
                  have HRN := Lib.hid (show rows1.length ≤ 20000 from by rw [hre.len]; exact Nat.le_trans hre.pfx.length_le OKA.out.len)
                  have KLt := Lib.hid (fun W => later_yes D2 D1 W hml.1)
                  clear hM hM8 hfs2 hgen hfew hcl hL2l hf2l OKB hml hre hD1 hs1 hD2 hs2 hr1 hr2 HIN HFR HBP2 HL2 H4 H5 H6 hlt hk
                  have c0 : w7.cell? ⟨bp, 0, none⟩ = some (.slice bA bn bc) := HBP7.out.cell 0
                  have c1 : w7.cell? ⟨bp, 1, none⟩ = some (.slice gA gn gc) := HBP7.out.cell 1
                  have z1 := HBP7.out.lt
                  go_wp2_with fail
                  refine (KR1.out _ HIN7.out HFR7.out).mono ?_
                  rintro e w8 ⟨g1, g2, rfl, hB8, _⟩
                  have HX8 := Lib.hid (HXB7.out.below hB8 HXB7.out.lt)
                  have H78 := Lib.hid hB8
                  clear c0 c1 z1 hB8 KR1
                  have d0 : w8.cell? ⟨xb, 0, none⟩ = some (.slice cA bn cc) := HX8.out.cell 0
                  have d1 : w8.cell? ⟨xb, 1, none⟩ = some (.slice gA gn gc) := HX8.out.cell 1
                  have z1 := HX8.out.lt
                  go_wp2_with fail
                  obtain ⟨rb1, hrb1⟩ : ∃ z, z = w8.heap.size := ⟨_, rfl⟩
                  obtain ⟨w9, hw9⟩ : ∃ z, z = w8.alloc (.cells #[.int .i64 D1, .slice (some ⟨g1, 0, none⟩) bn bn, .slice (some ⟨g2, 0, none⟩) gn gn, .int .i64 s1] 40) := ⟨_, rfl⟩
                  have hi9 : Below w8.heap.size w8 w9 := by rw [hw9]; exact (Below.refl _ _).alloc (Nat.le_refl _) _
                  have hk9 : Blk w9 rb1 40 #[.int .i64 D1, .slice (some ⟨g1, 0, none⟩) bn bn, .slice (some ⟨g2, 0, none⟩) gn gn, .int .i64 s1] := by rw [hw9, hrb1]; exact heap_alloc_new w8 _
                  rw [← hw9, ← hrb1]
                  have H79 := Lib.hid (below3 H78.out hi9 (Nat.le_refl _))
                  refine (KR2.out _ (HIN8.out.next H79.out) (HFR8.out.next H79.out)).mono ?_
                  rintro e w10 ⟨g3, g4, rfl, hB10, _⟩
                  have HR10 := Lib.hid (hk9.below hB10 hk9.lt)
                  have H710 := Lib.hid (below3 H79.out hB10 (Nat.le_refl _))
                  clear d0 d1 z1 hrb1 hw9 hi9 hk9 hB10 HX8 H78 H79 KR2
                  have c0 : w10.cell? ⟨bp, 0, none⟩ = some (.slice bA bn bc) := (HBP7.out.below H710.out HBP7.out.lt).cell 0
                  have c1 : w10.cell? ⟨bp, 1, none⟩ = some (.slice gA gn gc) := (HBP7.out.below H710.out HBP7.out.lt).cell 1
                  have z1 := (HBP7.out.below H710.out HBP7.out.lt).lt
                  go_wp2_with fail
                  obtain ⟨rb2, hrb2⟩ : ∃ z, z = w10.heap.size := ⟨_, rfl⟩
                  obtain ⟨w11, hw11⟩ : ∃ z, z = w10.alloc (.cells #[.int .i64 D2, .slice (some ⟨g3, 0, none⟩) bn bn, .slice (some ⟨g4, 0, none⟩) gn gn, .int .i64 s2] 40) := ⟨_, rfl⟩
                  have hi11 : Below w10.heap.size w10 w11 := by rw [hw11]; exact (Below.refl _ _).alloc (Nat.le_refl _) _
                  have hk11 : Blk w11 rb2 40 #[.int .i64 D2, .slice (some ⟨g3, 0, none⟩) bn bn, .slice (some ⟨g4, 0, none⟩) gn gn, .int .i64 s2] := by rw [hw11, hrb2]; exact heap_alloc_new w10 _
                  rw [← hw11, ← hrb2]
                  have H711 := Lib.hid (below3 H710.out hi11 (Nat.le_refl _))
                  have HR11 := Lib.hid (HR10.out.below hi11 HR10.out.lt)
                  have HS11 := Lib.hid hk11
                  clear c0 c1 z1 hrb2 hw11 hi11 hk11 HR10 H710
                  refine (KT1.out _ (HIN7.out.next H711.out) (HFR7.out.next H711.out)).mono ?_
                  rintro e w12 ⟨pA, pc, gl1, rfl, hB12, hrow1, hrws1⟩
                  obtain ⟨pl, hpl⟩ : ∃ z, z = gl1.length := ⟨_, rfl⟩
                  have HPL : Hid (pl = rows1.length) := Lib.hid (by rw [hpl]; exact hrws1.1)
                  rw [← hpl] at hrow1 ⊢
                  have HRA1 := Lib.hid (And.intro hrow1 hrws1)
                  have HGL1 := Lib.hid hpl
                  have H712 := Lib.hid (below3 H711.out hB12 (Nat.le_refl _))
                  have HR12 := Lib.hid (HR11.out.below hB12 HR11.out.lt)
                  have HS12 := Lib.hid (HS11.out.below hB12 HS11.out.lt)
                  clear hB12 hrow1 hrws1 hpl HR11 HS11 H711 KT1
                  have c0 : w12.cell? ⟨xb, 0, none⟩ = some (.slice cA bn cc) := (HXB7.out.below H712.out HXB7.out.lt).cell 0
                  have c1 : w12.cell? ⟨xb, 1, none⟩ = some (.slice gA gn gc) := (HXB7.out.below H712.out HXB7.out.lt).cell 1
                  have z1 := (HXB7.out.below H712.out HXB7.out.lt).lt
                  go_wp2_with fail
                  refine (KT2.out _ (HIN8.out.next H712.out) (HFR8.out.next H712.out)).mono ?_
                  rintro e w13 ⟨qA, qc, gl2, rfl, hB13, hrow2, hrws2⟩
                  obtain ⟨ql, hql⟩ : ∃ z, z = gl2.length := ⟨_, rfl⟩
                  have HQL : Hid (ql = rows2.length) := Lib.hid (by rw [hql]; exact hrws2.1)
                  rw [← hql] at hrow2 ⊢
                  have HP1 : Hid (Rd w13 w13.heap.size 1 (fun g => [slV bn g]) pA pl gl1) := Lib.hid (row_rd (fun _ => rfl) HGL1.out.symm (by rw [flat_one]; exact row_next HRA1.out.1 hB13))
                  have HP2 : Hid (Rd w13 w13.heap.size 1 (fun g => [slV bn g]) qA ql gl2) := Lib.hid (row_rd (fun _ => rfl) hql.symm (by rw [flat_one]; exact hrow2))
                  have HB1 : Hid (∀ (i g : Nat) (r : List Int), gl1[i]? = some g → rows1[i]? = some r → Blk w13 g 3 (intsA r)) := Lib.hid (fun i g r h1 h2 => (HRA1.out.2.2 i g r h1 h2).2.below hB13 (HRA1.out.2.2 i g r h1 h2).2.lt)
                  have HB2 : Hid (∀ (i g : Nat) (r : List Int), gl2[i]? = some g → rows2[i]? = some r → Blk w13 g 3 (intsA r)) := Lib.hid (fun i g r h1 h2 => (hrws2.2 i g r h1 h2).2)
                  have H713 := Lib.hid (below3 H712.out hB13 (Nat.le_refl _))
                  have HR13 := Lib.hid (HR12.out.below hB13 HR12.out.lt)
                  have HS13 := Lib.hid (HS12.out.below hB13 HS12.out.lt)
                  have HLw := Lib.hid (below3 HL7.out H713.out (Nat.le_refl _))
                  have hpq : pl ≤ ql := by rw [HPL.out, HQL.out]; exact HRL.out.len
                  have hpn : pl ≤ 20000 := by rw [HPL.out]; exact HRN.out
                  have hpq2 : decide (ql < pl) = false := decide_eq_false (by omega)
                  have hpq3 : ¬ ql < pl := by omega
                  have HPQ := Lib.hid hpq
                  clear c0 c1 z1 hB13 hrow2 hrws2 hql hpq HR12 HS12 H712 KT2 HIN7 HIN8 HFR7 HFR8 HRA1 HL7 HBP7 HXB7
                  have d0 : w13.cell? ⟨rb1, 0, none⟩ = some (.int .i64 D1) := HR13.out.cell 0
                  have e0 : w13.cell? ⟨rb2, 0, none⟩ = some (.int .i64 D2) := HS13.out.cell 0
                  have z1 := HR13.out.lt
                  have z2 := HS13.out.lt
                  go_wp2_with fail
                  refine (KLt.out _).mono ?_
                  rintro e w14 ⟨rfl, hw14⟩
                  rw [hw14]
                  clear hw14 d0 e0 z1 z2
                  go_wp2
                  go_loopw [207] (fun i wr => ∃ a : Nat, a ≤ pl ∧ i = .int .i64 a ∧ Hid (Below w13.heap.size w13 wr)) (fun i _ => pl - (intOf i).toNat)
                  case atStart => exact ⟨0, by omega, rfl, Lib.hid (Below.refl _ _)⟩
                  case round =>
                    obtain ⟨a, ha, rfl, hB⟩ := hrel
                    have hzw := hB.out.size
                    by_cases hlt : a < pl
                    · obtain ⟨b, off, g, e1, hb, hg, hcg⟩ := (HP1.out.below hB.out).at_ hlt
                      obtain ⟨b2, off2, h, e2, hb2, hh, hch⟩ := (HP2.out.below hB.out).at_ (show a < ql by have := HPQ.out; omega)
                      have x0 : wr.cell? ⟨b, off + a, none⟩ = some (.slice (some ⟨g, 0, none⟩) bn bn) := by simpa [slV] using hcg 0 _ rfl
                      have HH : Hid (w13.cell? ⟨b2, off2 + a, none⟩ = some (.slice (some ⟨h, 0, none⟩) bn bn)) := by
                        obtain ⟨b3, off3, h3, e3, hb3, hh3, hch3⟩ := HP2.out.at_ (show a < ql by have := HPQ.out; omega)
                        rw [e2] at e3
                        cases e3
                        rw [hh] at hh3
                        cases hh3
                        exact Lib.hid (by simpa [slV] using hch3 0 _ rfl)
                      obtain ⟨r, hr⟩ : ∃ r, rows1[a]? = some r := ⟨_, List.getElem?_eq_getElem (by rw [← HPL.out]; exact hlt)⟩
                      obtain ⟨r2, hr2, hle⟩ := HRL.out a r hr
                      have HG1 := Lib.hid (HB1.out a g r hg hr)
                      have HG2 := Lib.hid (HB2.out a h r2 hh hr2)
                      have HLE := Lib.hid hle
                      have HRZ := Lib.hid (HRK.out r (List.mem_of_getElem? hr))
                      have zb : b < wr.heap.size := by omega
                      have HB2L : Hid (b2 < w13.heap.size) := Lib.hid hb2
                      have hk0 : (0 : Int) ≤ (a : Int) := by omega
                      have hkn : (a : Int) < (pl : Int) := by omega
                      have hkq : (a : Int) < (ql : Int) := by have := HPQ.out; omega
                      subst e1
                      subst e2
                      clear hg hcg hh hch hr hr2 hle hb hb2
                      go_wp2
                      go_loopw [214] (fun i wr => ∃ d : Nat, d ≤ bn ∧ i = .int .i64 d ∧ Hid (Below w13.heap.size w13 wr)) (fun i _ => bn - (intOf i).toNat)
                      case atStart => exact ⟨0, by omega, rfl, hB⟩
                      case round =>
                        clear hB hzw x0 zb
                        obtain ⟨d, hd, rfl, hB⟩ := hrel
                        have hzw := hB.out.size
                        by_cases hlt : d < bn
                        · obtain ⟨x, hx⟩ : ∃ n, r[d]? = some n := ⟨_, List.getElem?_eq_getElem (by rw [HRZ.out]; exact hlt)⟩
                          obtain ⟨y, hy, hxy⟩ := HLE.out.at_ hx
                          have x1 : wr.cell? ⟨g, d, none⟩ = some (.int .i64 x) := (HG1.out.below hB.out HG1.out.lt).intAt hx
                          have y1 : wr.cell? ⟨h, d, none⟩ = some (.int .i64 y) := (HG2.out.below hB.out HG2.out.lt).intAt hy
                          have q1 : wr.cell? ⟨b2, off2 + a, none⟩ = some (.slice (some ⟨h, 0, none⟩) bn bn) := (hB.out.cell (p := ⟨b2, off2 + a, none⟩) HB2L.out).trans HH.out
                          have zg := (HG1.out.below hB.out HG1.out.lt).lt
                          have zh := (HG2.out.below hB.out HG2.out.lt).lt
                          have zb : b2 < wr.heap.size := by have := HB2L.out; omega
                          have hd0 : (0 : Int) ≤ (d : Int) := by omega
                          have hdn : (d : Int) < (bn : Int) := by omega
                          have hdd : decide (y < x) = false := decide_eq_false (by omega)
                          clear hx hy hxy
                          go_wp2
                          go_roundw
                          case rel => exact ⟨d + 1, by omega, by go_num, hB⟩
                          case measure => simp [intOf]; omega
                        · obtain rfl : bn = d := by omega
                          go_wp2
                          go_roundw
                          case rel => exact ⟨a + 1, by omega, by go_num, hB⟩
                          case measure => simp [intOf]; omega
                    · obtain rfl : pl = a := by omega
                      have HLr := Lib.hid (below3 HLw.out hB.out (Nat.le_refl _))
                      clear hB hzw hlt ha
                      go_wp2_with fail
                      refine (KA.out _).mono ?_
                      rintro e wz ⟨rfl, hBz⟩
                      have HLz := Lib.hid (below3 HLr.out hBz (Nat.le_refl _))
                      clear hBz
                      go_wp2_with fail
                      go_ret
                      exact ⟨rfl, HLz.out⟩
end Go.Proofs.Ytnpkcipeacogcaa
