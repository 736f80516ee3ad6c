/- law06: BankBalance. -/
import Derived.Test.YtnpkcipeacogcaaBkWb
import Derived.Test.YtnpkcipeacogcaaBkWd
import Derived.Test.YtnpkcipeacogcaaBkWe

set_option linter.unusedSimpArgs false
set_option linter.unusedVariables false
namespace Go.Proofs.Ytnpkcipeacogcaa
open Go.RowKit

theorem row_rd {α : Type} {f : α → List Value} {size n : Nat} {W : World} {n₀ : Nat} {T : TypeId} {A : Option Addr} {c : Nat} {xs : List α} (hf : ∀ x, (f x).length = size) (hl : xs.length = n) (h : W.ownsRow n₀ T size (.slice A n c) n (xs.flatMap f)) : Rd W W.heap.size size f A n xs := by
  subst hl
  obtain ⟨A', c', b, e, hw, _⟩ := RowW.of_own h
  cases e
  refine ⟨rfl, fun hn => ?_⟩
  have hx0 : xs[0]? = some xs[0] := List.getElem?_eq_getElem hn
  obtain ⟨hA, hb, _, _⟩ := hw.at_ hf hx0
  refine ⟨b, 0, hA, hb, fun i x hx j u hu => ?_⟩
  rw [Nat.zero_add]
  exact (hw.at_ hf hx).2.2.2 j u hu
def r2Phi (base bp : Nat) (v1 v3 vb : Value) (gn : Nat) (gs : List Gen) : Nat → Value → World → (Nat → Nat) → Prop
  | 0, v, _, _ => v = v1
  | 1, v, W, _ => ∃ (A : Option Addr) (c : Nat) (L : List Spn), v = .slice A L.length c ∧ W.ownsRow base 37 2 (.slice A L.length c) L.length (L.flatMap Spn.enc) ∧ L.length ≤ 8 ∧ ∀ s ∈ L, LdOk s
  | 2, v, _, _ => v = vb
  | 3, v, _, _ => v = v3
  | 4, v, W, _ => ∃ (A : Option Addr) (c : Nat) (fs : List Int), v = .slice A gn c ∧ W.ownsRow base 3 1 (.slice A gn c) gn (fs.flatMap encI) ∧ FailsOk gs fs
  | 5, v, W, _ => ∃ (A : Option Addr) (c : Nat) (L : List Spn), v = .slice A L.length c ∧ W.ownsRow base 37 2 (.slice A L.length c) L.length (L.flatMap Spn.enc) ∧ L.length ≤ 8 ∧ ∀ s ∈ L, LdOk s
  | 6, v, W, _ => ∃ (A : Option Addr) (c : Nat) (fs : List Int), v = .slice A gn c ∧ W.ownsRow base 3 1 (.slice A gn c) gn (fs.flatMap encI) ∧ FailsOk gs fs
  | _, _, _, _ => True
theorem r2Phi_next {base bp : Nat} {v1 v3 vb : Value} {gn : Nat} {gs : List Gen} {i : Nat} {v : Value} {W W' : World} {γ : Nat → Nat} (hb : Below W.heap.size W W') (h : r2Phi base bp v1 v3 vb gn gs i v W γ) : r2Phi base bp v1 v3 vb gn gs i v W' γ := by
  unfold r2Phi at h ⊢
  split at h
  all_goals first | exact h | trivial | skip
  all_goals
    obtain ⟨A, c, L, h1, h2, h3⟩ := h
    exact ⟨A, c, L, h1, row_next h2 hb, h3⟩
theorem secs_len {L : List Spn} (h : ∀ s ∈ L, LdOk s) : (secsL L).length ≤ 40 * L.length := by
  induction L with
  | nil => exact Nat.le_refl _
  | cons s L ih =>
    have h1 := h s (List.mem_cons_self ..)
    have h2 := ih (fun z hz => h z (List.mem_cons_of_mem _ hz))
    unfold LdOk at h1
    unfold secsL at h2 ⊢
    simp only [List.flatMap_cons, List.length_append, List.length_replicate, List.length_cons]
    omega
theorem law_args {bs : List Bat} {gs : List Gen} {L : List Spn} (h1 : bs.length ≤ 4) (h2 : gs.length ≤ 3) (h3 : ∀ b ∈ bs, MdBat b) (h4 : ∀ g ∈ gs, MdGen g) (h5 : L.length ≤ 8) (h6 : ∀ s ∈ L, LdOk s) : ArgsOk bs gs L := by
  refine ⟨by omega, by omega, by omega, fun b hb => (h3 b hb).1, fun g hg => (h4 g hg).1, fun s hs => ?_, ?_⟩
  · have := h6 s hs
    unfold LdOk at this
    exact ⟨by omega, by omega, by omega, by omega⟩
  · have := secs_len h6
    omega
theorem run_b (bA gA lA fA : Option Addr) (bn bc gn gc ln lc fc : Nat) (bs : List Bat) (gs : List Gen) (l : List Spn) (fs : List Int) (hbn : bn = bs.length) (hgn : gn = gs.length) (w : World)
    (hin : ArgsIn w w.heap.size bA bn bs gA gn gs lA ln l) (hf : Rd w w.heap.size 1 encI fA gn fs) (ok : ArgsOk bs gs l) (okf : FailsOk gs fs) :
    Calls Try.prog 15 #[.agg #[.slice bA bn bc, .slice gA gn gc], .slice lA ln lc, .slice fA gn fc] w fun e w' => ∃ g1 g2, e = .returned (.tuple #[.agg #[.int .i64 (runOf bs gs l fs).dark, .slice (some ⟨g1, 0, none⟩) bn bn, .slice (some ⟨g2, 0, none⟩) gn gn, .int .i64 (runOf bs gs l fs).served], .int .i64 0]) ∧ Below w.heap.size w w' ∧ ResIn w.heap.size w' g1 g2 (runOf bs gs l fs) := by
  refine (run_any bA gA lA fA bn bc gn gc ln lc gn fc bs gs l fs w hin hf ok okf).mono ?_
  rintro e w' ⟨g1, g2, rfl, h1, h2⟩
  have hl := runOf_len (bs := bs) (l := l) (Fl.of_ok okf)
  unfold runOf at hl ⊢
  refine ⟨g1, g2, ?_, h1, h2⟩
  unfold resVal
  rw [hl.1, hl.2, hbn, hgn]
theorem Blk.intAt {w : World} {g : Nat} {T : TypeId} {l : List Int} {k : Nat} {x : Int} (h : Blk w g T (intsA l)) (hx : l[k]? = some x) : w.cell? ⟨g, k, none⟩ = some (.int .i64 x) := by
  rw [h.cell]
  simp [intsA, hx]
theorem sumI_bd {M : Int} {l : List Int} (hM : 0 ≤ M) (h : ∀ x ∈ l, 0 ≤ x ∧ x ≤ M) : 0 ≤ sumI l ∧ sumI l ≤ M * l.length := by
  induction l with
  | nil => simp [sumI]
  | cons x l ih =>
    have h1 := h x (List.mem_cons_self ..)
    have h2 := ih (fun z hz => h z (List.mem_cons_of_mem _ hz))
    simp only [sumI, List.length_cons]
    rw [show M * ((l.length + 1 : Nat) : Int) = M * (l.length : Int) + M by rw [Int.natCast_add, Int.mul_add]; simp]
    omega
theorem sumI_bds {M : Int} {l : List Int} {N : Nat} (hM : 0 ≤ M) (h : ∀ x ∈ l, 0 ≤ x ∧ x ≤ M) (hl : l.length ≤ N) (k : Nat) : 0 ≤ sumI (l.take k) ∧ sumI (l.take k) ≤ M * N := by
  have h1 := sumI_bd hM (l := l.take k) (fun x hx => h x (List.mem_of_mem_take hx))
  have h2 : (l.take k).length ≤ N := by rw [List.length_take]; omega
  have h3 : M * ((l.take k).length : Int) ≤ M * (N : Int) := Int.mul_le_mul_of_nonneg_left (by omega) hM
  omega
theorem RunEnd.e_at {bs : List Bat} {gs : List Gen} {fs all pre : List Int} {P : Ply} {rows : List (List Int)} (h : RunEnd bs gs fs all pre P rows) (hb : ∀ b ∈ bs, MdBat b) {r : List Int} (hr : RowOk bs r) : ∀ n ∈ r, 0 ≤ n ∧ n ≤ 10200 := by
  intro n hn
  obtain ⟨i, hi, rfl⟩ := List.mem_iff_getElem.1 hn
  have hi2 : i < bs.length := by rw [← hr.1]; exact hi
  have h1 := hr.2 i _ bs[i] (List.getElem?_eq_getElem hi) (List.getElem?_eq_getElem hi2)
  have h2 := (hb bs[i] (List.getElem_mem hi2)).2.1
  omega
structure Bds (bs : List Bat) (P : Ply) (pre : List Int) : Prop where
  s : 0 ≤ P.served ∧ P.served ≤ 20000000000
  e : ∀ k, 0 ≤ sumI ((energies P).take k) ∧ sumI ((energies P).take k) ≤ 1020000
  b : ∀ k, 0 ≤ sumI ((bs.map Bat.energy).take k) ∧ sumI ((bs.map Bat.energy).take k) ≤ 1020000
  u : ∀ k, 0 ≤ sumI ((burnts P).take k) ∧ sumI ((burnts P).take k) ≤ 120000000000
  p : ∀ k, 0 ≤ sumI (pre.take k) ∧ sumI (pre.take k) ≤ 20000000000
theorem bds_of {bs : List Bat} {gs : List Gen} {fs pre : List Int} {L : List Spn} {P : Ply} {rows : List (List Int)} (h : RunEnd bs gs fs (secsL L) pre P rows) (ok : ArgsOk bs gs L) (hb : ∀ b ∈ bs, MdBat b) : Bds bs P pre := by
  have hp : ∀ x ∈ pre, 0 ≤ x ∧ x ≤ 1000000 := fun x hx => secsL_bd ok.spn x (h.pfx.subset hx)
  have hl : pre.length ≤ 20000 := Nat.le_trans h.pfx.length_le ok.len
  have h1 := sumI_bds (by omega) hp hl
  refine ⟨?_, ?_, ?_, ?_, ?_⟩
  · have := h1 pre.length
    rw [List.take_length] at this
    rw [h.served]
    exact ⟨this.1, by omega⟩
  · intro k
    have := sumI_bds (M := 10200) (N := 100) (by omega) (h.e_at hb h.e) (by have := h.e.1; have := ok.nb; omega) k
    exact ⟨this.1, by omega⟩
  · intro k
    have := sumI_bds (M := 10200) (N := 100) (l := bs.map Bat.energy) (by omega) (fun n hn => by
      obtain ⟨b, hb1, rfl⟩ := List.mem_map.1 hn
      have h2 := hb b hb1
      have := h2.1.e0
      have := h2.1.ef
      have := h2.2.1
      omega) (by have := ok.nb; simp; omega) k
    exact ⟨this.1, by omega⟩
  · intro k
    have := sumI_bds (M := 1000000 * 20000) (N := 6) (by omega) h.bb (by have := h.bn; have := ok.ng; omega) k
    exact ⟨this.1, by omega⟩
  · intro k
    have := h1 k
    exact ⟨this.1, by omega⟩
theorem secs_at {L : List Spn} {m j : Nat} {s : Spn} (h : L[m]? = some s) (hj : j < s.secs.toNat) : (secsL L)[(secsL (L.take m)).length + j]? = some s.power := by
  obtain ⟨r, hr⟩ := secsL_pre h hj
  rw [← hr, List.append_assoc, List.append_assoc, List.getElem?_append_right (by omega), Nat.add_sub_cancel_left, List.getElem?_append_right (by simp)]
  simp
theorem pfx_at {a b : List Int} {i : Nat} (h : a <+: b) (hi : i < a.length) : a[i]? = b[i]? := by
  obtain ⟨r, rfl⟩ := h
  rw [List.getElem?_append_left hi]
theorem flat_one {α : Type} (f : α → Value) (l : List α) : l.flatMap (fun x => [f x]) = l.map f := by
  induction l with
  | nil => rfl
  | cons a l ih => rw [List.flatMap_cons, ih]; rfl
def r42E (sv : Int) (rb : Nat) (rc : Nat) (rA : Option Addr) : Nat → Value → World → (Nat → Nat) → Prop
  | 0, v, _, _ => v = .int .i64 0
  | 1, v, _, _ => v = .bool true
  | 2, v, _, _ => v = .bool true
  | 3, v, _, _ => v = .int .i64 sv
  | 4, v, _, _ => v = .pointer (some ⟨rb, 3, none⟩)
  | 5, v, _, _ => v = .int .i64 sv
  | 6, v, _, _ => v = .bool true
  | 7, v, _, _ => v = .bool true
  | 8, v, _, _ => v = .bool true
  | 9, v, _, _ => v = .slice rA 0 rc
  | 10, v, _, _ => v = .int .i64 0
  | 11, v, _, _ => v = .int .i64 0
  | 12, v, _, _ => v = .bool true
  | 13, v, _, _ => v = .bool true
  | 14, v, _, _ => v = .bool true
  | 15, v, _, _ => v = .slice rA 0 rc
  | 16, v, _, _ => v = .int .i64 0
  | 17, v, _, _ => v = .bool true
  | 18, v, _, _ => v = .bool true
  | 28, v, _, _ => v = .bool true
  | 29, v, _, _ => v = .bool true
  | 30, v, _, _ => v = .bool true
  | 31, v, _, _ => v = .bool true
  | 32, v, _, _ => v = .bool true
  | 33, v, _, _ => v = .bool true
  | _, _, _, _ => True
theorem r42E_w {sv : Int} {rb : Nat} {rc : Nat} {rA : Option Addr} {i : Nat} {v : Value} {W W' : World} {γ : Nat → Nat} (h : r42E sv rb rc rA i v W γ) : r42E sv rb rc rA i v W' γ := by
  unfold r42E at h ⊢
  split at h <;> first | exact h | trivial
def r42N (sv : Int) (rb : Nat) (rc : Nat) (rl : Nat) (ru : Nat) (lb : Nat) (lo : Nat) (g : Nat) (g1 : Nat) (k : Nat) : Nat → Value → World → (Nat → Nat) → Prop
  | 0, v, _, _ => v = .int .i64 0
  | 1, v, _, _ => v = .bool true
  | 2, v, _, _ => v = .bool true
  | 3, v, _, _ => v = .int .i64 sv
  | 4, v, _, _ => v = .pointer (some ⟨rb, 3, none⟩)
  | 5, v, _, _ => v = .int .i64 sv
  | 6, v, _, _ => v = .bool true
  | 7, v, _, _ => v = .bool true
  | 8, v, _, _ => v = .bool true
  | 9, v, _, _ => v = .slice (some ⟨lb, lo, none⟩) rl rc
  | 10, v, _, _ => v = .int .i64 rl
  | 11, v, _, _ => v = .int .i64 rl
  | 12, v, _, _ => v = .bool true
  | 13, v, _, _ => v = .bool true
  | 14, v, _, _ => v = .bool true
  | 15, v, _, _ => v = .slice (some ⟨lb, lo, none⟩) rl rc
  | 16, v, _, _ => v = .int .i64 rl
  | 17, v, _, _ => v = .bool false
  | 18, v, _, _ => v = .bool false
  | 19, v, _, _ => v = .slice (some ⟨lb, lo, none⟩) rl rc
  | 20, v, _, _ => v = .slice (some ⟨lb, lo, none⟩) rl rc
  | 21, v, _, _ => v = .int .i64 rl
  | 22, v, _, _ => v = .int .i64 (ru : Int)
  | 23, v, _, _ => v = .pointer (some ⟨lb, lo + ru, none⟩)
  | 24, v, _, _ => v = .slice (some ⟨g, 0, none⟩) k k
  | 25, v, _, _ => v = .pointer (some ⟨rb, 1, none⟩)
  | 26, v, _, _ => v = .slice (some ⟨g1, 0, none⟩) k k
  | 27, v, _, _ => v = .bool true
  | 28, v, _, _ => v = .bool true
  | 29, v, _, _ => v = .bool true
  | 30, v, _, _ => v = .bool true
  | 31, v, _, _ => v = .bool true
  | 32, v, _, _ => v = .bool true
  | 33, v, _, _ => v = .bool true
  | _, _, _, _ => True
theorem r42N_w {sv : Int} {rb : Nat} {rc : Nat} {rl : Nat} {ru : Nat} {lb : Nat} {lo : Nat} {g : Nat} {g1 : Nat} {k : Nat} {i : Nat} {v : Value} {W W' : World} {γ : Nat → Nat} (h : r42N sv rb rc rl ru lb lo g g1 k i v W γ) : r42N sv rb rc rl ru lb lo g g1 k i v W' γ := by
  unfold r42N at h ⊢
  split at h <;> first | exact h | trivial
set_option maxRecDepth 100000 in
set_option maxHeartbeats 4000000 in
theorem balance_any (A1 A2 A3 : Option Addr) (n1 c1 n2 c2 n3 c3 : Nat) (l1 l2 l3 : List Int) (w : World) (h1 : Rd w w.heap.size 1 encU A1 n1 l1) (h2 : Rd w w.heap.size 1 encU A2 n2 l2) (h3 : Rd w w.heap.size 1 encU A3 n3 l3) (u1 : U8s l1) (u2 : U8s l2) (u3 : U8s l3) (z1 : n1 ≤ 9223372036854775807) (z2 : n2 ≤ 9223372036854775807) (z3 : n3 ≤ 9223372036854775807) :
    Calls Try.prog 4 #[.slice A1 n1 c1, .slice A2 n2 c2, .slice A3 n3 c3] w fun e w' => e = .returned (.bool true) ∧ Below w.heap.size w w' := by
  have H1 := Lib.hid h1
  have H2 := Lib.hid h2
  have H3 := Lib.hid h3
  have KM := Lib.hid (fun W h => Made_any A1 n1 c1 l1 W h u1 z1)
  have KL := Lib.hid (fun W h => Loaded_any A2 n2 c2 l2 W h u2 (by omega))
  have KF0 := Lib.hid (fun (bA gA : Option Addr) (bn bc gn gc : Nat) (gs : List Gen) W hg h hgn ok => Failed_any bA gA A3 bn bc gn gc n3 c3 gs l3 W hg h u3 hgn ok (by omega))
  have KA := Lib.hid awake_any
  clear h1 h2 h3 u1 u2 u3 z1 z2 z3
  go_enter Try.func4, Try.ntmps4
  go_wp2_with fail
  refine (KM.out _ H1.out).mono ?_
  rintro e w0 ⟨bA, bc, gA, gc, bs, gs, rfl, hB0, hrb, hrg, hb4, hg3, hbs, hgs⟩
  obtain ⟨bn, hbn⟩ : ∃ z, z = bs.length := ⟨_, rfl⟩
  obtain ⟨gn, hgn⟩ : ∃ z, z = gs.length := ⟨_, rfl⟩
  rw [← hbn] at hrb ⊢
  rw [← hgn] at hrg ⊢
  have KF := Lib.hid (fun W hg h => KF0.out bA gA bn bc gn gc gs W hg h (by omega) (fun g hg => (hgs g hg).1))
  have HRB := Lib.hid hrb
  have HRG := Lib.hid hrg
  have HMD := Lib.hid (And.intro hb4 (And.intro hg3 (And.intro hbs hgs)))
  have HBN := Lib.hid hbn
  have HGN := Lib.hid hgn
  have HL0 := Lib.hid hB0
  clear hrb hrg hb4 hg3 hbs hgs hbn hgn hB0 KF0 KM
  go_wp2
  obtain ⟨bp, hbp⟩ : ∃ z, z = w0.heap.size := ⟨_, rfl⟩
  obtain ⟨w1, hw1⟩ : ∃ z, z = w0.alloc (.cells #[.slice bA bn bc, .slice gA gn gc] 26) := ⟨_, rfl⟩
  have hi1 : Below w0.heap.size w0 w1 := by rw [hw1]; exact (Below.refl _ _).alloc (Nat.le_refl _) _
  have HBP : Hid (Blk w1 bp 26 #[.slice bA bn bc, .slice gA gn gc]) := Lib.hid (by rw [hw1, hbp]; exact heap_alloc_new w0 _)
  rw [← hw1, ← hbp]
  have HL1 := Lib.hid (below3 HL0.out hi1 (Nat.le_refl _))
  have HB := Lib.hid (row_rd Bat.enc_len HBN.out.symm (row_next HRB.out hi1))
  have HG := Lib.hid (row_rd Gen.enc_len HGN.out.symm (row_next HRG.out hi1))
  have H2 := Lib.hid (H2.out.next HL1.out)
  have H3 := Lib.hid (H3.out.next HL1.out)
  clear hw1 hbp hi1 HRB HRG HL0 H1
  refine wp_region_free10 6 (by kernel_rfl) [some 30, some 31, some 32, some 33, some 34, some 8, some 9] [[], [0], [], [], [2, 3, 1], [1, 4, 0, 1], [4, 5, 0, 1, 2, 3, 4, 5]] [(1, .slice A2 n2 c2), (2, .slice A3 n3 c3), (7, .pointer (some ⟨bp, 0, none⟩))] (fun W _ => Below w1.heap.size w1 W) (r2Phi w1.heap.size bp (.slice A2 n2 c2) (.slice A3 n3 c3) (.agg #[.slice bA bn bc, .slice gA gn gc]) gn gs) (fun _ _ _ => True) (by kernel_rfl) (by kernel_rfl) rfl (by kernel_rfl) ?_ ?_ ⟨fun _ => 0, (Below.refl _ _).drew, fun i _ => trivial⟩ ?_ ?_
  · intro z hz
    simp only [List.mem_cons, List.mem_nil_iff, or_false] at hz
    rcases hz with rfl | rfl | rfl
    all_goals exact ⟨by kernel_rfl, rfl⟩
  · intro i v W γ hi h
    rcases i with _ | _ | _ | _ | _ | _ | _ | i
    all_goals first | exact h | (simp at hi)
  · refine ⟨?_, ?_, ?_, ?_, ?_, ?_, ?_, trivial⟩
    all_goals
      intro a W γ ev hcc hff hfx hR hψ hpre
      simp only [List.mem_cons, List.mem_nil_iff, or_false, forall_eq, forall_eq_or_imp] at hfx
      obtain ⟨f0, f1, f2⟩ := hfx
      have HR := Lib.hid hR
      clear hR
      refine ⟨fun _ K hK => ?_, trivial⟩

    · clear hpre hψ
      go_simp
      exact hK _ _ γ HR.out (fun _ _ _ _ h => h) (fun _ _ _ h => h) rfl
    · have q0 : ev (.tmp 30) = _ := hpre 0 (by decide)
      have C := Lib.hid (KL.out W (H2.out.next (HR.out : Below w1.heap.size w1 W)))
      have HRW : Hid (Below w1.heap.size w1 W) := HR
      clear hpre
      go_simp
      refine C.out.mono ?_
      rintro e w5 ⟨A, c, L, rfl, hB5, hrow, hL1, hL2⟩
      exact hK _ w5 γ (below3 HRW.out hB5 (Nat.le_refl _)) (fun j u _ _ h => r2Phi_next hB5 h) (fun _ _ _ h => h) ⟨A, c, L, rfl, row_low hrow HRW.out.size, hL1, hL2⟩
    · have c0 : W.cell? ⟨bp, 0, none⟩ = some (.slice bA bn bc) := ((HR.out : Below w1.heap.size w1 W).cell (p := ⟨bp, 0, none⟩) HBP.out.lt).trans (HBP.out.cell 0)
      have c1 : W.cell? ⟨bp, 1, none⟩ = some (.slice gA gn gc) := ((HR.out : Below w1.heap.size w1 W).cell (p := ⟨bp, 1, none⟩) HBP.out.lt).trans (HBP.out.cell 1)
      have hzz : bp < W.heap.size := Nat.lt_of_lt_of_le HBP.out.lt (HR.out : Below w1.heap.size w1 W).size
      clear hpre hψ
      go_simp
      exact hK _ _ γ HR.out (fun _ _ _ _ h => h) (fun _ _ _ h => h) rfl
    · clear hpre hψ
      go_simp
      exact hK _ _ γ HR.out (fun _ _ _ _ h => h) (fun _ _ _ h => h) rfl
    · have q0 : ev (.tmp 32) = _ := hpre 2 (by decide)
      have q1 : ev (.tmp 33) = _ := hpre 3 (by decide)
      have C := Lib.hid (KF.out W (HG.out.next (HR.out : Below w1.heap.size w1 W)) (H3.out.next (HR.out : Below w1.heap.size w1 W)))
      have HRW : Hid (Below w1.heap.size w1 W) := HR
      clear hpre
      go_simp
      refine C.out.mono ?_
      rintro e w5 ⟨A, c, fs, rfl, hB5, hrow, hfs⟩
      exact hK _ w5 γ (below3 HRW.out hB5 (Nat.le_refl _)) (fun j u _ _ h => r2Phi_next hB5 h) (fun _ _ _ h => h) ⟨A, c, fs, rfl, row_low hrow HRW.out.size, hfs⟩
    · obtain ⟨A, c, L, q0, hrow, hL1, hL2⟩ := hpre 1 (by decide)
      replace q0 : ev (.tmp 31) = _ := q0
      clear hpre
      go_simp
      exact hK _ W γ HR.out (fun _ _ _ _ h => h) (fun _ _ _ h => h) ⟨A, c, L, rfl, hrow, hL1, hL2⟩
    · obtain ⟨A, c, fs, q0, hrow, hfs⟩ := hpre 4 (by decide)
      replace q0 : ev (.tmp 34) = _ := q0
      clear hpre
      go_simp
      exact hK _ W γ HR.out (fun _ _ _ _ h => h) (fun _ _ _ h => h) ⟨A, c, fs, rfl, hrow, hfs⟩
  · intro vs w' γ hvl hR hφ
    have q1 := hφ 5 (by decide)
    have q2 := hφ 6 (by decide)
    have HR := Lib.hid hR
    clear hφ hR
    match vs, hvl with
    | [y0, y1, y2, y3, y4, y5, y6], _ =>
    simp only [List.getD_cons_zero, List.getD_cons_succ] at q1 q2
    obtain ⟨lA, lc, L, e1, hrl, hL1, hL2⟩ := q1
    obtain ⟨fA, fc, fs, e2, hrf, hfs⟩ := q2
    subst e1
    subst e2
    have HLR : Hid (Below w1.heap.size w1 w') := HR
    have OKA := Lib.hid (law_args HMD.out.1 HMD.out.2.1 HMD.out.2.2.1 HMD.out.2.2.2 hL1 hL2)
    have OKF := Lib.hid hfs
    have HIN : Hid (ArgsIn w' w'.heap.size bA bn bs gA gn gs lA L.length L) := Lib.hid ⟨HB.out.next HLR.out, HG.out.next HLR.out, row_rd Spn.enc_len rfl hrl⟩
    have HFR : Hid (Rd w' w'.heap.size 1 encI fA gn fs) := Lib.hid (row_rd (fun _ => rfl) (by rw [OKF.out.1, HGN.out]) hrf)
    have HLS := Lib.hid (And.intro hL1 hL2)
    have KR := Lib.hid (fun W h1 h2 => run_b bA gA lA fA bn bc gn gc L.length lc fc bs gs L fs HBN.out HGN.out W h1 h2 OKA.out OKF.out)
    have KT := Lib.hid (fun W h1 h2 => trace_any bA gA lA fA bn bc gn gc L.length lc gn fc bs gs L fs W h1 h2 OKA.out OKF.out)
    obtain ⟨pre, hre⟩ := run_end OKA.out OKF.out
    have hre : RunEnd bs gs fs (secsL L) pre (runOf bs gs L fs) (traceL 0 (ply0 bs gs fs) (secsL L)) := hre
    obtain ⟨Pl, hPl⟩ : ∃ z, z = runOf bs gs L fs := ⟨_, rfl⟩
    obtain ⟨rows, hrows⟩ : ∃ z, z = traceL 0 (ply0 bs gs fs) (secsL L) := ⟨_, rfl⟩
    rw [← hPl] at KR hre
    rw [← hrows] at KT hre
    have HRE := Lib.hid hre
    have HBP2 := Lib.hid (HBP.out.below HLR.out HBP.out.lt)
    have HL2 := Lib.hid (below3 HL1.out HLR.out (Nat.le_refl _))
    obtain ⟨w2, hw2⟩ : ∃ z, z = w' := ⟨_, rfl⟩
    rw [← hw2] at HIN HFR HBP2 HL2 ⊢
    clear hrl hrf hL1 hL2 hfs hre hPl hrows HR HLR HB HG H2 H3 KL KF HBP HL1 hw2 hvl
    have c0 : w2.cell? ⟨bp, 0, none⟩ = some (.slice bA bn bc) := HBP2.out.cell 0
    have c1 : w2.cell? ⟨bp, 1, none⟩ = some (.slice gA gn gc) := HBP2.out.cell 1
    have z1 := HBP2.out.lt
    simp [putAll]
    go_wp2_with fail
    refine (KR.out _ HIN.out HFR.out).mono ?_
    rintro e w3 ⟨g1, g2, rfl, hB3, hres⟩
    obtain ⟨rb, hrb⟩ : ∃ z, z = w3.heap.size := ⟨_, rfl⟩
    have HRI := Lib.hid (And.intro hres.e hres.b)
    have HBP3 := Lib.hid (HBP2.out.below hB3 HBP2.out.lt)
    have HIN3 := Lib.hid (HIN.out.next hB3)
    have HFR3 := Lib.hid (HFR.out.next hB3)
    have HL3 := Lib.hid (below3 HL2.out hB3 (Nat.le_refl _))
    clear c0 c1 z1 hB3 hres HIN HFR HBP2 HL2 KR
    have c0 : w3.cell? ⟨bp, 0, none⟩ = some (.slice bA bn bc) := HBP3.out.cell 0
    have c1 : w3.cell? ⟨bp, 1, none⟩ = some (.slice gA gn gc) := HBP3.out.cell 1
    have z1 := HBP3.out.lt
    go_wp2_with fail
    obtain ⟨w4, hw4⟩ : ∃ z, z = w3.alloc (.cells #[.int .i64 Pl.dark, .slice (some ⟨g1, 0, none⟩) bn bn, .slice (some ⟨g2, 0, none⟩) gn gn, .int .i64 Pl.served] 40) := ⟨_, rfl⟩
    have hi4 : Below w3.heap.size w3 w4 := by rw [hw4]; exact (Below.refl _ _).alloc (Nat.le_refl _) _
    have hk4 : Blk w4 rb 40 #[.int .i64 Pl.dark, .slice (some ⟨g1, 0, none⟩) bn bn, .slice (some ⟨g2, 0, none⟩) gn gn, .int .i64 Pl.served] := by rw [hw4, hrb]; exact heap_alloc_new w3 _
    rw [← hw4, ← hrb]
    refine (KT.out _ (HIN3.out.next hi4) (HFR3.out.next hi4)).mono ?_
    rintro e w5 ⟨rA, rc, gl, rfl, hB5, hrow, hrws⟩
    have HRW := Lib.hid (And.intro hrow hrws)
    have HRES := Lib.hid (hk4.below hB5 hk4.lt)
    have HBP5 := Lib.hid ((HBP3.out.below hi4 HBP3.out.lt).below hB5 (HBP3.out.below hi4 HBP3.out.lt).lt)
    have HG1 := Lib.hid ((HRI.out.1.below hi4 HRI.out.1.lt).below hB5 (HRI.out.1.below hi4 HRI.out.1.lt).lt)
    have HG2 := Lib.hid ((HRI.out.2.below hi4 HRI.out.2.lt).below hB5 (HRI.out.2.below hi4 HRI.out.2.lt).lt)
    have HIN5 := Lib.hid ((HIN3.out.next hi4).next hB5)
    have HL5 := Lib.hid (below3 (below3 HL3.out hi4 (Nat.le_refl _)) hB5 (Nat.le_refl _))
    obtain ⟨rl, hrl⟩ : ∃ z, z = gl.length := ⟨_, rfl⟩
    have HRLN : Hid (rl = pre.length) := Lib.hid (by rw [hrl, hrws.1]; exact HRE.out.len)
    rw [← hrl] at HRW ⊢
    clear c0 c1 z1 hw4 hrb hi4 hk4 hB5 hrow hrws hrl HRI HBP3 HIN3 HFR3 HL3 KT
    have c0 : w5.cell? ⟨bp, 0, none⟩ = some (.slice bA bn bc) := HBP5.out.cell 0
    have c1 : w5.cell? ⟨bp, 1, none⟩ = some (.slice gA gn gc) := HBP5.out.cell 1
    have z1 := HBP5.out.lt
    have d0 : w5.cell? ⟨rb, 0, none⟩ = some (.int .i64 Pl.dark) := HRES.out.cell 0
    have d1 : w5.cell? ⟨rb, 1, none⟩ = some (.slice (some ⟨g1, 0, none⟩) bn bn) := HRES.out.cell 1
    have d2 : w5.cell? ⟨rb, 2, none⟩ = some (.slice (some ⟨g2, 0, none⟩) gn gn) := HRES.out.cell 2
    have d3 : w5.cell? ⟨rb, 3, none⟩ = some (.int .i64 Pl.served) := HRES.out.cell 3
    have z2 := HRES.out.lt
    go_wp2
    have HBD := Lib.hid (bds_of HRE.out OKA.out HMD.out.2.2.1)
    have HEN : Hid ((energies Pl).length = bn) := Lib.hid (by rw [HRE.out.e.1, HBN.out])
    have HUN : Hid ((burnts Pl).length = gn) := Lib.hid (by rw [HRE.out.bn, HGN.out])
    have HBB : Hid (bn ≤ 4 ∧ gn ≤ 3 ∧ L.length ≤ 8) := Lib.hid ⟨by rw [HBN.out]; exact HMD.out.1, by rw [HGN.out]; exact HMD.out.2.1, HLS.out.1⟩
    have hbn4 := HBB.out.1
    have hgn3 := HBB.out.2.1
    have hL8 := HBB.out.2.2
    clear c0 c1 d0 d1 d2 d3 z1 z2
    go_loopw [14, 78] (fun sm i wr => ∃ k : Nat, k ≤ bn ∧ i = .int .i64 k ∧ sm = .int .i64 (Pl.served + sumI ((energies Pl).take k) - sumI ((bs.map Bat.energy).take k)) ∧ Hid (Below w5.heap.size w5 wr)) (fun _ i _ => bn - (intOf i).toNat)
    case atStart => exact ⟨0, by omega, rfl, by simp [sumI], Lib.hid (Below.refl _ _)⟩
    case round =>
      obtain ⟨k, hk, rfl, rfl, hB⟩ := hrel
      have hzw := hB.out.size
      have HBPr := Lib.hid (HBP5.out.below hB.out HBP5.out.lt)
      have HRESr := Lib.hid (HRES.out.below hB.out HRES.out.lt)
      by_cases hlt : k < bn
      · obtain ⟨b, off, x, e1, hb, hx, hcx⟩ := (HIN5.out.bat.below hB.out).at_ hlt
        obtain ⟨y, hy⟩ : ∃ y, (energies Pl)[k]? = some y := ⟨_, List.getElem?_eq_getElem (by rw [HEN.out]; exact hlt)⟩
        have e0 : wr.cell? ⟨g1, k, none⟩ = some (.int .i64 y) := (HG1.out.below hB.out HG1.out.lt).intAt hy
        have zg := (HG1.out.below hB.out HG1.out.lt).lt
        have x0 : wr.cell? ⟨b, off + k * 4, none⟩ = some (.int .i64 x.energy) := by simpa using hcx 0 _ rfl
        have x1 : wr.cell? ⟨b, off + k * 4 + 1, none⟩ = some (.int .i64 x.full) := by simpa using hcx 1 _ rfl
        have x2 : wr.cell? ⟨b, off + k * 4 + 2, none⟩ = some (.int .i64 x.power) := by simpa using hcx 2 _ rfl
        have x3 : wr.cell? ⟨b, off + k * 4 + 3, none⟩ = some (.int .i64 x.charge) := by simpa using hcx 3 _ rfl
        have zb : b < wr.heap.size := by omega
        have d1 : wr.cell? ⟨rb, 1, none⟩ = some (.slice (some ⟨g1, 0, none⟩) bn bn) := HRESr.out.cell 1
        have z2 := HRESr.out.lt
        have hyb := HRE.out.e_at HMD.out.2.2.1 HRE.out.e y (List.mem_of_getElem? hy)
        have hxb := HMD.out.2.2.1 x (List.mem_of_getElem? hx)
        have hxe : 0 ≤ x.energy ∧ x.energy ≤ 10200 := by have := hxb.1.e0; have := hxb.1.ef; have := hxb.2.1; omega
        have hS0 := HBD.out.s
        have hSe := HBD.out.e k
        have hSb := HBD.out.b k
        obtain ⟨S, hS⟩ : ∃ z, z = Pl.served + sumI ((energies Pl).take k) - sumI ((bs.map Bat.energy).take k) := ⟨_, rfl⟩
        have HSN : Hid (S + (y - x.energy) = Pl.served + sumI ((energies Pl).take (k + 1)) - sumI ((bs.map Bat.energy).take (k + 1))) := Lib.hid (by
          rw [hS, sumI_take hy, sumI_take (show (bs.map Bat.energy)[k]? = some x.energy by simp [hx])]
          omega)
        have wv1 : IntKind.i64.wrap (y - x.energy) = y - x.energy := IntWalk.i64_in _ (by omega)
        have wv2 : IntKind.i64.wrap (S + (y - x.energy)) = S + (y - x.energy) := IntWalk.i64_in _ (by omega)
        have hk0 : (0 : Int) ≤ (k : Int) := by omega
        have hkn : (k : Int) < (bn : Int) := by omega
        rw [← hS]
        subst e1
        clear hx hcx hy hyb hxb hxe hS0 hSe hSb hS
        go_wp2
        go_quiet (fail)
        go_wp2
        go_roundw
        case rel => exact ⟨k + 1, by omega, by go_num, by rw [HSN.out], Lib.hid (by have h1 := hB.out; (repeat' (first | (with_reducible exact Below.refl _ _) | (with_reducible assumption) | (with_reducible refine below_drewN ?_ _) | (with_reducible refine below_after (by assumption) ?_ ?_) | (with_reducible refine Below.drew ?_) | (with_reducible refine Below.alloc ?_ ?_ _) | (with_reducible refine Below.setCell ?_ ?_ _) | omega | (simp; omega) | (simp; done))))⟩
        case measure => simp [intOf]; omega
      · obtain rfl : k = bn := by omega
        obtain ⟨S1, hS1⟩ : ∃ z, z = Pl.served + sumI ((energies Pl).take k) - sumI ((bs.map Bat.energy).take k) := ⟨_, rfl⟩
        have HS1 : Hid (S1 = Pl.served + sumI (energies Pl) - sumI (bs.map Bat.energy)) := Lib.hid (by
          rw [hS1, List.take_of_length_le (by rw [HEN.out]; exact Nat.le_refl _), List.take_of_length_le (by rw [List.length_map, HBN.out]; exact Nat.le_refl _)])
        have hS1b : -2000000 ≤ S1 ∧ S1 ≤ 20002000000 := by
          have h1 := HBD.out.s
          have h2 := HBD.out.e k
          have h3 := HBD.out.b k
          omega
        rw [← hS1]
        have d2 : wr.cell? ⟨rb, 2, none⟩ = some (.slice (some ⟨g2, 0, none⟩) gn gn) := HRESr.out.cell 2
        have z2 := HRESr.out.lt
        clear hS1
        go_wp2
        clear d2 z2
        go_loopw [14, 97] (fun sm i wr => ∃ q : Nat, q ≤ gn ∧ i = .int .i64 q ∧ sm = .int .i64 (S1 - sumI ((burnts Pl).take q)) ∧ Hid (Below w5.heap.size w5 wr)) (fun _ i _ => gn - (intOf i).toNat)
        case atStart => exact ⟨0, by omega, rfl, by simp [sumI], hB⟩
        case round =>
          clear hB HBPr HRESr hzw
          obtain ⟨q, hq, rfl, rfl, hB⟩ := hrel
          have hzw := hB.out.size
          by_cases hlt : q < gn
          · obtain ⟨y, hy⟩ : ∃ y, (burnts Pl)[q]? = some y := ⟨_, List.getElem?_eq_getElem (by rw [HUN.out]; exact hlt)⟩
            have hBg := HG2.out.below hB.out HG2.out.lt
            have e0 := hBg.intAt hy
            have zg := hBg.lt
            have hyb := HRE.out.bb y (List.mem_of_getElem? hy)
            have hSu := HBD.out.u q
            obtain ⟨S, hS⟩ : ∃ z, z = S1 - sumI ((burnts Pl).take q) := ⟨_, rfl⟩
            have HSN : Hid (S - y = S1 - sumI ((burnts Pl).take (q + 1))) := Lib.hid (by rw [hS, sumI_take hy]; omega)
            have wv2 : IntKind.i64.wrap (S - y) = S - y := IntWalk.i64_in _ (by omega)
            have hk0 : (0 : Int) ≤ (q : Int) := by omega
            have hkn : (q : Int) < (gn : Int) := by omega
            rw [← hS]
            clear hy hyb hSu hS hBg
            go_wp2
            go_roundw
            case rel => exact ⟨q + 1, by omega, by go_num, by rw [HSN.out], hB⟩
            case measure => simp [intOf]; omega
          · obtain rfl : q = gn := by omega
            have HS2 : Hid (S1 - sumI ((burnts Pl).take q) = 0) := Lib.hid (by
              rw [List.take_of_length_le (by rw [HUN.out]; exact Nat.le_refl _), HS1.out]
              exact HRE.out.bal)
            rw [HS2.out]
            clear HS1 hS1b
            go_wp2
            go_loopw [19, 20, 107] (fun wa tt i wr => ∃ m : Nat, m ≤ L.length ∧ i = .int .i64 m ∧ tt = .int .i64 (((secsL (L.take m)).length : Nat) : Int) ∧ wa = .int .i64 (sumI (pre.take (secsL (L.take m)).length)) ∧ Hid (Below w5.heap.size w5 wr)) (fun _ _ i _ => L.length - (intOf i).toNat)
            case atStart => exact ⟨0, by omega, rfl, rfl, rfl, hB⟩
            case round =>
              clear hB hzw
              obtain ⟨m, hm, rfl, rfl, rfl, hB⟩ := hrel
              have hzw := hB.out.size
              by_cases hlt : m < L.length
              · obtain ⟨b, off, s, e1, hb, hx, hcx⟩ := (HIN5.out.load.below hB.out).at_ hlt
                have hso := HLS.out.2 s (List.mem_of_getElem? hx)
                unfold LdOk at hso
                have c0 : wr.cell? ⟨b, off + m * 2, none⟩ = some (.int .i64 s.secs) := by simpa using hcx 0 _ rfl
                have c1 : wr.cell? ⟨b, off + m * 2 + 1, none⟩ = some (.int .i64 s.power) := by simpa using hcx 1 _ rfl
                have hkn : (m : Int) < (L.length : Int) := by omega
                have hk0 : (0 : Int) ≤ (m : Int) := by omega
                have HX := Lib.hid hx
                have zb : b < wr.heap.size := by omega
                obtain ⟨sn, hsn⟩ : ∃ sn : Nat, s.secs = (sn : Int) := ⟨s.secs.toNat, by omega⟩
                have HSC := Lib.hid hsn
                have HSO := Lib.hid hso
                rw [hsn] at c0
                have sn1 : 1 ≤ sn ∧ sn ≤ 40 := by omega
                subst e1
                obtain ⟨tn, htn⟩ : ∃ z, z = (secsL (L.take m)).length := ⟨_, rfl⟩
                have HTN := Lib.hid htn
                rw [← htn]
                clear htn hx hcx hsn hso
                obtain ⟨wo, hwo⟩ : ∃ z, z = wr := ⟨wr, rfl⟩
                subst hwo
                go_wp2
                go_loopw [19, 20, 113] (fun wa tt i wr => ∃ j : Nat, j ≤ sn ∧ i = .int .i64 j ∧ tt = .int .i64 ((tn + j : Nat) : Int) ∧ wa = .int .i64 (sumI (pre.take (tn + j))) ∧ Hid (Below w5.heap.size w5 wr) ∧ Hid (Blk wr wo.heap.size 37 #[.int .i64 sn, .int .i64 s.power])) (fun _ _ i _ => sn - (intOf i).toNat)
                case atStart => exact ⟨0, by omega, rfl, rfl, rfl, Lib.hid (by have h1 := hB.out; (repeat' (first | (with_reducible exact Below.refl _ _) | (with_reducible assumption) | (with_reducible refine below_drewN ?_ _) | (with_reducible refine below_after (by assumption) ?_ ?_) | (with_reducible refine Below.drew ?_) | (with_reducible refine Below.alloc ?_ ?_ _) | (with_reducible refine Below.setCell ?_ ?_ _) | omega | (simp; omega) | (simp; done)))), heap_alloc_new wo _⟩
                case round =>
                  clear hB hzw c0 c1 hkn hk0 zb
                  obtain ⟨j, hj, rfl, rfl, rfl, hB, hX⟩ := hrel
                  have hzw := hB.out.size
                  have hz := Blk.lt hX.out
                  by_cases hlt : j < sn
                  · have hkn : (j : Int) < (sn : Int) := by omega
                    have hk0 : (0 : Int) ≤ (j : Int) := by omega
                    have c1 : wr.cell? ⟨wo.heap.size, 1, none⟩ = some (.int .i64 s.power) := Blk.cell hX.out 1
                    obtain ⟨u, hu⟩ : ∃ z, z = tn + j := ⟨_, rfl⟩
                    have hat : (secsL L)[u]? = some s.power := by rw [hu, HTN.out]; exact secs_at HX.out (by have := HSC.out; omega)
                    have hu2 : u < 20000 := by have h1 := (List.getElem?_eq_some_iff.1 hat).1; have h2 := OKA.out.len; omega
                    have HU := Lib.hid hu
                    rw [← hu]
                    have hSp := HBD.out.p u
                    have hsp := HSO.out
                    have HRESr := Lib.hid (HRES.out.below hB.out HRES.out.lt)
                    have d0 : wr.cell? ⟨rb, 0, none⟩ = some (.int .i64 Pl.dark) := HRESr.out.cell 0
                    have z2 := HRESr.out.lt
                    obtain ⟨D, hD⟩ : ∃ z, z = Pl.dark := ⟨_, rfl⟩
                    rw [← hD] at d0
                    have wt : IntKind.i64.wrap ((u : Int) + 1) = (u : Int) + 1 := IntWalk.i64_in _ (by omega)
                    by_cases hcase : u < pre.length
                    · have hp : pre[u]? = some s.power := by rw [pfx_at HRE.out.pfx hcase, hat]
                      obtain ⟨S, hS⟩ : ∃ z, z = sumI (pre.take u) := ⟨_, rfl⟩
                      have HSN : Hid (S + s.power = sumI (pre.take (tn + (j + 1)))) := Lib.hid (by rw [hS, show tn + (j + 1) = u + 1 by omega, sumI_take hp])
                      have wv : IntKind.i64.wrap (S + s.power) = S + s.power := IntWalk.i64_in _ (by omega)
                      rw [← hS]
                      rcases HRE.out.dark with ⟨hd1, _⟩ | ⟨hd1, _⟩
                      · have hdd : decide (D < 0) = true := decide_eq_true (by omega)
                        clear hd1 hD hS hp hat hSp hsp hu hcase
                        go_wp2
                        go_roundw
                        case rel => exact ⟨j + 1, by omega, by go_num, (by have := HU.out; go_num), by rw [HSN.out], hB, hX⟩
                        case measure => simp [intOf]; omega
                      · have hdd : decide (D < 0) = false := decide_eq_false (by omega)
                        have hde : decide ((u : Int) < D) = true := decide_eq_true (by omega)
                        clear hd1 hD hS hp hat hSp hsp hu hcase
                        go_wp2
                        go_roundw
                        case rel => exact ⟨j + 1, by omega, by go_num, (by have := HU.out; go_num), by rw [HSN.out], hB, hX⟩
                        case measure => simp [intOf]; omega
                    · have hdk : D = pre.length := by
                        rcases HRE.out.dark with ⟨_, hd2⟩ | ⟨hd1, _⟩
                        · exfalso
                          rw [hd2] at hcase
                          have h1 := (List.getElem?_eq_some_iff.1 hat).1
                          omega
                        · omega
                      have hdd : decide (D < 0) = false := decide_eq_false (by omega)
                      have hde : decide ((u : Int) < D) = false := decide_eq_false (by omega)
                      have HSN : Hid (sumI (pre.take u) = sumI (pre.take (tn + (j + 1)))) := Lib.hid (by rw [List.take_of_length_le (by omega), List.take_of_length_le (by omega)])
                      clear hdk hD hat hSp hsp hu hcase
                      go_wp2
                      go_roundw
                      case rel => exact ⟨j + 1, by omega, by go_num, (by have := HU.out; go_num), by rw [HSN.out], hB, hX⟩
                      case measure => simp [intOf]; omega
                  · obtain rfl : j = sn := by omega
                    have HTT : Hid (tn + j = (secsL (L.take (m + 1))).length) := Lib.hid (by rw [secsL_take HX.out, List.length_append, List.length_replicate, HTN.out, HSC.out]; rfl)
                    go_wp2
                    go_roundw
                    case rel => exact ⟨m + 1, by omega, by go_num, by rw [HTT.out], by rw [HTT.out], hB⟩
                    case measure => simp [intOf]; omega
              · obtain rfl : m = L.length := by omega
                have HTL : Hid (secsL (L.take L.length) = secsL L) := Lib.hid (by rw [List.take_length])
                have HWA : Hid (sumI (pre.take (secsL L).length) = Pl.served) := Lib.hid (by rw [List.take_of_length_le HRE.out.pfx.length_le, HRE.out.served])
                rw [HTL.out, HWA.out]
                obtain ⟨tt, htt⟩ : ∃ z, z = (secsL L).length := ⟨_, rfl⟩
                have HTT := Lib.hid htt
                have htt2 : tt ≤ 20000 := by rw [htt]; exact OKA.out.len
                rw [← htt]
                clear htt
                have HRWR : Hid (Rd w5 w5.heap.size 1 (fun g => [slV bs.length g]) rA rl gl) := Lib.hid (row_rd (fun _ => rfl) (by have h := HRW.out.1.1; rw [List.length_map] at h; omega) (by rw [flat_one]; exact HRW.out.1))
                have hrl2 : rl ≤ 20000 := by rw [HRLN.out]; exact Nat.le_trans HRE.out.pfx.length_le OKA.out.len
                go_wp2
                go_loopw [134] (fun i wr => ∃ a : Nat, a ≤ rl ∧ i = .int .i64 a ∧ Hid (Below w5.heap.size w5 wr)) (fun i _ => rl - (intOf i).toNat)
                case atStart => exact ⟨0, by omega, rfl, hB⟩
                case round =>
                  clear hB hzw
                  obtain ⟨a, ha, rfl, hB⟩ := hrel
                  have hzw := hB.out.size
                  by_cases hlt : a < rl
                  · obtain ⟨b, off, g, e1, hb, hg, hcg⟩ := (HRWR.out.below hB.out).at_ hlt
                    have c0 : wr.cell? ⟨b, off + a, none⟩ = some (.slice (some ⟨g, 0, none⟩) k k) := by
                      rw [HBN.out]
                      simpa [slV] using hcg 0 _ rfl
                    obtain ⟨r, hr⟩ : ∃ r, rows[a]? = some r := ⟨_, List.getElem?_eq_getElem (by rw [HRE.out.len, ← HRLN.out]; exact hlt)⟩
                    have HGB := Lib.hid (HRW.out.2.2 a g r hg hr).2
                    have HRO := Lib.hid (HRE.out.ok r (List.mem_of_getElem? hr))
                    have zb : b < wr.heap.size := by omega
                    have hk0 : (0 : Int) ≤ (a : Int) := by omega
                    have hkn : (a : Int) < (rl : Int) := by omega
                    subst e1
                    clear hg hcg hr
                    go_wp2
                    go_loopw [140] (fun i wr => ∃ d : Nat, d ≤ k ∧ i = .int .i64 d ∧ Hid (Below w5.heap.size w5 wr)) (fun i _ => k - (intOf i).toNat)
                    case atStart => exact ⟨0, by omega, rfl, hB⟩
                    case round =>
                      clear hB hzw c0 zb hk0 hkn
                      obtain ⟨d, hd, rfl, hB⟩ := hrel
                      have hzw := hB.out.size
                      by_cases hlt : d < k
                      · obtain ⟨bb, bo, x, e2, hbb, hx, hcx⟩ := (HIN5.out.bat.below hB.out).at_ hlt
                        obtain ⟨n, hn⟩ : ∃ n, r[d]? = some n := ⟨_, List.getElem?_eq_getElem (by rw [HRO.out.1, ← HBN.out]; exact hlt)⟩
                        have hnb := HRO.out.2 d n x hn hx
                        have hGr := HGB.out.below hB.out HGB.out.lt
                        have y0 := hGr.intAt hn
                        have zg := hGr.lt
                        have x1 : wr.cell? ⟨bb, bo + d * 4 + 1, none⟩ = some (.int .i64 x.full) := by simpa using hcx 1 _ rfl
                        have HBPr := Lib.hid (HBP5.out.below hB.out HBP5.out.lt)
                        have b0 : wr.cell? ⟨bp, 0, none⟩ = some (.slice bA k bc) := HBPr.out.cell 0
                        have zp := HBPr.out.lt
                        have zb : bb < wr.heap.size := by omega
                        have hk0 : (0 : Int) ≤ (d : Int) := by omega
                        have hkn : (d : Int) < (k : Int) := by omega
                        have hd1 : decide (n < 0) = false := decide_eq_false (by omega)
                        have hd2 : decide (x.full < n) = false := decide_eq_false (by omega)
                        subst e2
                        clear hx hcx hn hnb hGr
                        go_wp2
                        go_roundw
                        case rel => exact ⟨d + 1, by omega, by go_num, hB⟩
                        case measure => simp [intOf]; omega
                      · obtain rfl : d = k := by omega
                        go_wp2
                        go_roundw
                        case rel => exact ⟨a + 1, by omega, by go_num, hB⟩
                        case measure => simp [intOf]; omega
                  · obtain rfl : a = rl := by omega
                    obtain ⟨rl, hrl⟩ : ∃ z, z = a := ⟨_, rfl⟩
                    rw [← hrl] at HRW HRLN HRWR ⊢
                    have hrl3 : rl ≤ 20000 := by omega
                    clear hrl hlt ha hrl2
                    have HRESr := Lib.hid (HRES.out.below hB.out HRES.out.lt)
                    obtain ⟨D, hD⟩ : ∃ z, z = Pl.dark := ⟨_, rfl⟩
                    have d0 : wr.cell? ⟨rb, 0, none⟩ = some (.int .i64 D) := by rw [hD]; exact HRESr.out.cell 0
                    obtain ⟨sv, hsv⟩ : ∃ z, z = Pl.served := ⟨_, rfl⟩
                    rw [← hsv] at HRESr ⊢
                    clear hsv
                    have z2 := HRESr.out.lt
                    have hcase : (D = -1 ∧ tt = rl) ∨ D = (rl : Int) := by
                      rcases HRE.out.dark with ⟨h1, h2⟩ | ⟨h1, _⟩
                      · left
                        refine ⟨by omega, ?_⟩
                        rw [HTT.out, HRLN.out, h2]
                      · right
                        rw [hD, h1, HRLN.out]
                    clear hD
                    by_cases hemp : rl = 0
                    · clear HRE
                      subst hemp
                      rcases hcase with ⟨rfl, hte⟩ | rfl
                      · rw [hte]
                        clear hte
                        go_wp2
                        clear d0
                        refine wp_region_free10 33 (by kernel_rfl) [some 165, some 166, some 167, some 168, some 169, some 170, some 171, some 172, some 173, some 174, some 175, some 176, some 177, some 178, some 179, some 180, some 181, some 182, some 183, some 184, some 185, some 186, some 187, some 188, some 189, some 190, some 191, some 192, some 193, some 194, some 195, some 196, some 197, some 6] [[], [0], [1], [2], [2], [4, 2], [3, 5, 2], [2, 6], [7, 2], [8], [9, 8], [8], [10, 11, 8], [8, 12], [13, 8], [14], [15, 14], [16, 14], [17, 14, 14], [18], [18], [20, 18], [21, 18], [19, 22, 18], [23, 18], [18], [25, 18], [24, 26, 18, 18], [18, 27, 14], [14, 28], [29, 27], [30, 30], [30, 31], [32, 31, 0, 1, 2, 3, 4, 5, 6, 7, 8, 9, 10, 11, 12, 13, 14, 15, 16, 17, 18, 19, 20, 21, 22, 23, 24, 25, 26, 27, 28, 29, 30, 31, 32]] [(14, .int .i64 0), (19, .int .i64 sv), (10, .pointer (some ⟨rb, 0, none⟩)), (12, .slice rA 0 rc), (27, .int .i64 0)] (fun W _ => Below wr.heap.size wr W) (r42E sv rb rc rA) (fun _ _ _ => True) (by kernel_rfl) (by kernel_rfl) rfl (by kernel_rfl) ?_ ?_ ⟨fun _ => 0, (Below.refl _ _).drew, fun i _ => trivial⟩ ?_ ?_
                        · intro z hz
                          simp only [List.mem_cons, List.mem_nil_iff, or_false] at hz
                          rcases hz with rfl | rfl | rfl | rfl | rfl
                          all_goals exact ⟨by kernel_rfl, rfl⟩
                        · intro i v W γ hi h
                          rcases i with _ | _ | _ | _ | _ | _ | _ | _ | _ | _ | _ | _ | _ | _ | _ | _ | _ | _ | _ | _ | _ | _ | _ | _ | _ | _ | _ | _ | _ | _ | _ | _ | _ | _ | i
                          all_goals first | exact h | (simp at hi)
                        · refine ⟨?_, ?_, ?_, ?_, ?_, ?_, ?_, ?_, ?_, ?_, ?_, ?_, ?_, ?_, ?_, ?_, ?_, ?_, ?_, ?_, ?_, ?_, ?_, ?_, ?_, ?_, ?_, ?_, ?_, ?_, ?_, ?_, ?_, ?_, trivial⟩
                          all_goals
                            intro a W γ ev hcc hff hfx hR hψ hpre
                            simp only [List.mem_cons, List.mem_nil_iff, or_false, forall_eq, forall_eq_or_imp] at hfx
                            obtain ⟨f0, f1, f2, f3, f4⟩ := hfx
                            have HR := Lib.hid hR
                            clear hR
                          · refine ⟨fun hg K hK => ?_, trivial⟩
                            clear hg
                            clear hpre hψ
                            go_simp
                            exact hK _ _ γ HR.out (fun _ _ _ _ h => h) (fun _ _ _ h => h) rfl
                          · refine ⟨fun hg K hK => ?_, trivial⟩
                            clear hg
                            have q0 : ev (.tmp 165) = _ := hpre 0 (by decide)
                            clear hpre hψ
                            go_simp
                            exact hK _ _ γ HR.out (fun _ _ _ _ h => h) (fun _ _ _ h => h) rfl
                          · refine ⟨fun hg K hK => ?_, trivial⟩
                            clear hg
                            have q0 : ev (.tmp 166) = _ := hpre 1 (by decide)
                            clear hpre hψ
                            go_simp
                            exact hK _ _ γ HR.out (fun _ _ _ _ h => h) (fun _ _ _ h => h) rfl
                          · refine ⟨fun hg K hK => ?_, fun hg => (hg (hpre 2 (by decide))).elim⟩
                            clear hg
                            clear hpre hψ
                            go_simp
                            exact hK _ _ γ HR.out (fun _ _ _ _ h => h) (fun _ _ _ h => h) rfl
                          · refine ⟨fun hg K hK => ?_, fun hg => (hg (hpre 2 (by decide))).elim⟩
                            clear hg
                            clear hpre hψ
                            go_simp
                            exact hK _ _ γ HR.out (fun _ _ _ _ h => h) (fun _ _ _ h => h) rfl
                          · refine ⟨fun hg K hK => ?_, fun hg => (hg (hpre 2 (by decide))).elim⟩
                            clear hg
                            have q0 : ev (.tmp 169) = _ := hpre 4 (by decide)
                            have hb := HRESr.out.below (HR.out : Below wr.heap.size wr W) HRESr.out.lt
                            have hzz := hb.lt
                            have hd : W.cell? ⟨rb, 3, none⟩ = some (.int .i64 sv) := hb.cell 3
                            clear hb
                            clear hpre hψ
                            go_simp
                            exact hK _ _ γ HR.out (fun _ _ _ _ h => h) (fun _ _ _ h => h) rfl
                          · refine ⟨fun hg K hK => ?_, fun hg => (hg (hpre 2 (by decide))).elim⟩
                            clear hg
                            have q0 : ev (.tmp 168) = _ := hpre 3 (by decide)
                            have q1 : ev (.tmp 170) = _ := hpre 5 (by decide)
                            clear hpre hψ
                            go_simp
                            exact hK _ _ γ HR.out (fun _ _ _ _ h => h) (fun _ _ _ h => h) rfl
                          · refine ⟨fun hg K hK => ?_, trivial⟩
                            clear hg
                            have q0 : ev (.tmp 167) = _ := hpre 2 (by decide)
                            have q1 : ev (.tmp 171) = _ := hpre 6 (by decide)
                            clear hpre hψ
                            go_simp
                            exact hK _ _ γ HR.out (fun _ _ _ _ h => h) (fun _ _ _ h => h) rfl
                          · refine ⟨fun hg K hK => ?_, trivial⟩
                            clear hg
                            have q0 : ev (.tmp 172) = _ := hpre 7 (by decide)
                            clear hpre hψ
                            go_simp
                            exact hK _ _ γ HR.out (fun _ _ _ _ h => h) (fun _ _ _ h => h) rfl
                          · refine ⟨fun hg K hK => ?_, fun hg => (hg (hpre 8 (by decide))).elim⟩
                            clear hg
                            clear hpre hψ
                            go_simp
                            exact hK _ _ γ HR.out (fun _ _ _ _ h => h) (fun _ _ _ h => h) rfl
                          · refine ⟨fun hg K hK => ?_, fun hg => (hg (hpre 8 (by decide))).elim⟩
                            clear hg
                            have q0 : ev (.tmp 174) = _ := hpre 9 (by decide)
                            clear hpre hψ
                            go_simp
                            exact hK _ _ γ HR.out (fun _ _ _ _ h => h) (fun _ _ _ h => h) rfl
                          · refine ⟨fun hg K hK => ?_, fun hg => (hg (hpre 8 (by decide))).elim⟩
                            clear hg
                            clear hpre hψ
                            go_simp
                            exact hK _ _ γ HR.out (fun _ _ _ _ h => h) (fun _ _ _ h => h) rfl
                          · refine ⟨fun hg K hK => ?_, fun hg => (hg (hpre 8 (by decide))).elim⟩
                            clear hg
                            have q0 : ev (.tmp 175) = _ := hpre 10 (by decide)
                            have q1 : ev (.tmp 176) = _ := hpre 11 (by decide)
                            clear hpre hψ
                            go_simp
                            exact hK _ _ γ HR.out (fun _ _ _ _ h => h) (fun _ _ _ h => h) rfl
                          · refine ⟨fun hg K hK => ?_, trivial⟩
                            clear hg
                            have q0 : ev (.tmp 173) = _ := hpre 8 (by decide)
                            have q1 : ev (.tmp 177) = _ := hpre 12 (by decide)
                            clear hpre hψ
                            go_simp
                            exact hK _ _ γ HR.out (fun _ _ _ _ h => h) (fun _ _ _ h => h) rfl
                          · refine ⟨fun hg K hK => ?_, trivial⟩
                            clear hg
                            have q0 : ev (.tmp 178) = _ := hpre 13 (by decide)
                            clear hpre hψ
                            go_simp
                            exact hK _ _ γ HR.out (fun _ _ _ _ h => h) (fun _ _ _ h => h) rfl
                          · refine ⟨fun hg K hK => ?_, fun hg => (hg (hpre 14 (by decide))).elim⟩
                            clear hg
                            clear hpre hψ
                            go_simp
                            exact hK _ _ γ HR.out (fun _ _ _ _ h => h) (fun _ _ _ h => h) rfl
                          · refine ⟨fun hg K hK => ?_, fun hg => (hg (hpre 14 (by decide))).elim⟩
                            clear hg
                            have q0 : ev (.tmp 180) = _ := hpre 15 (by decide)
                            clear hpre hψ
                            go_simp
                            exact hK _ _ γ HR.out (fun _ _ _ _ h => h) (fun _ _ _ h => h) rfl
                          · refine ⟨fun hg K hK => ?_, fun hg => (hg (hpre 14 (by decide))).elim⟩
                            clear hg
                            have q0 : ev (.tmp 181) = _ := hpre 16 (by decide)
                            clear hpre hψ
                            go_simp
                            exact hK _ _ γ HR.out (fun _ _ _ _ h => h) (fun _ _ _ h => h) rfl
                          · refine ⟨fun hg K hK => ?_, fun hg => (hg (hpre 14 (by decide))).elim⟩
                            clear hg
                            have q0 : ev (.tmp 182) = _ := hpre 17 (by decide)
                            clear hpre hψ
                            go_simp
                            exact hK _ _ γ HR.out (fun _ _ _ _ h => h) (fun _ _ _ h => h) rfl
                          · refine ⟨fun hg K hK => ?_, fun _ => trivial⟩
                            have h := Eq.trans (Eq.symm (hpre 18 (by decide))) hg
                            cases h
                          · refine ⟨fun hg K hK => ?_, fun _ => trivial⟩
                            have h := Eq.trans (Eq.symm (hpre 18 (by decide))) hg
                            cases h
                          · refine ⟨fun hg K hK => ?_, fun _ => trivial⟩
                            have h := Eq.trans (Eq.symm (hpre 18 (by decide))) hg
                            cases h
                          · refine ⟨fun hg K hK => ?_, fun _ => trivial⟩
                            have h := Eq.trans (Eq.symm (hpre 18 (by decide))) hg
                            cases h
                          · refine ⟨fun hg K hK => ?_, fun _ => trivial⟩
                            have h := Eq.trans (Eq.symm (hpre 18 (by decide))) hg
                            cases h
                          · refine ⟨fun hg K hK => ?_, fun _ => trivial⟩
                            have h := Eq.trans (Eq.symm (hpre 18 (by decide))) hg
                            cases h
                          · refine ⟨fun hg K hK => ?_, fun _ => trivial⟩
                            have h := Eq.trans (Eq.symm (hpre 18 (by decide))) hg
                            cases h
                          · refine ⟨fun hg K hK => ?_, fun _ => trivial⟩
                            have h := Eq.trans (Eq.symm (hpre 18 (by decide))) hg
                            cases h
                          · refine ⟨fun hg K hK => ?_, fun _ => trivial⟩
                            have h := Eq.trans (Eq.symm (hpre 18 (by decide))) hg
                            cases h
                          · refine ⟨fun hg K hK => ?_, fun hg => (hg (hpre 14 (by decide))).elim⟩
                            clear hg
                            have q0 : ev (.tmp 183) = _ := hpre 18 (by decide)
                            clear hpre hψ
                            go_simp
                            exact hK _ _ γ HR.out (fun _ _ _ _ h => h) (fun _ _ _ h => h) rfl
                          · refine ⟨fun hg K hK => ?_, trivial⟩
                            clear hg
                            have q0 : ev (.tmp 179) = _ := hpre 14 (by decide)
                            have q1 : ev (.tmp 193) = _ := hpre 28 (by decide)
                            clear hpre hψ
                            go_simp
                            exact hK _ _ γ HR.out (fun _ _ _ _ h => h) (fun _ _ _ h => h) rfl
                          · refine ⟨fun hg K hK => ?_, trivial⟩
                            clear hg
                            have q0 : ev (.tmp 194) = _ := hpre 29 (by decide)
                            clear hpre hψ
                            go_simp
                            exact hK _ _ γ HR.out (fun _ _ _ _ h => h) (fun _ _ _ h => h) rfl
                          · refine ⟨fun hg K hK => ?_, fun hg => (hg (hpre 30 (by decide))).elim⟩
                            clear hg
                            have C := Lib.hid (KA.out W)
                            have HRW9 : Hid (Below wr.heap.size wr W) := HR
                            clear hpre
                            go_simp
                            refine C.out.mono ?_
                            rintro e w9 ⟨rfl, hB9⟩
                            exact hK _ w9 γ (below3 HRW9.out hB9 (Nat.le_refl _)) (fun _ _ _ _ h => r42E_w h) (fun _ _ _ h => h) rfl
                          · refine ⟨fun hg K hK => ?_, trivial⟩
                            clear hg
                            have q0 : ev (.tmp 195) = _ := hpre 30 (by decide)
                            have q1 : ev (.tmp 196) = _ := hpre 31 (by decide)
                            clear hpre hψ
                            go_simp
                            exact hK _ _ γ HR.out (fun _ _ _ _ h => h) (fun _ _ _ h => h) rfl
                          · refine ⟨fun hg K hK => ?_, trivial⟩
                            clear hg
                            have q0 : ev (.tmp 197) = _ := hpre 32 (by decide)
                            clear hpre hψ
                            go_simp
                            exact hK _ _ γ HR.out (fun _ _ _ _ h => h) (fun _ _ _ h => h) rfl
                        · intro vs w' γ hvl hR hφ
                          have qe : vs.getD 33 undef = .bool true := hφ 33 (by decide)
                          have HR := Lib.hid hR
                          clear hφ hR
                          match vs, hvl with
                          | y0 :: y1 :: y2 :: y3 :: y4 :: y5 :: y6 :: y7 :: y8 :: y9 :: y10 :: y11 :: y12 :: y13 :: y14 :: y15 :: y16 :: y17 :: y18 :: y19 :: y20 :: y21 :: y22 :: y23 :: y24 :: y25 :: y26 :: y27 :: y28 :: y29 :: y30 :: y31 :: y32 :: y33 :: [], _ =>
                          simp only [List.getD_cons_zero, List.getD_cons_succ] at qe
                          subst qe
                          have HRF : Hid (Below w.heap.size w w') := Lib.hid (below3 (below3 HL5.out hB.out (Nat.le_refl _)) HR.out (Nat.le_refl _))
                          clear HR
                          simp [putAll]
                          go_wp2
                          go_ret
                          exact ⟨rfl, HRF.out⟩
                      · go_wp2
                        clear d0
                        refine wp_region_free10 33 (by kernel_rfl) [some 165, some 166, some 167, some 168, some 169, some 170, some 171, some 172, some 173, some 174, some 175, some 176, some 177, some 178, some 179, some 180, some 181, some 182, some 183, some 184, some 185, some 186, some 187, some 188, some 189, some 190, some 191, some 192, some 193, some 194, some 195, some 196, some 197, some 6] [[], [0], [1], [2], [2], [4, 2], [3, 5, 2], [2, 6], [7, 2], [8], [9, 8], [8], [10, 11, 8], [8, 12], [13, 8], [14], [15, 14], [16, 14], [17, 14, 14], [18], [18], [20, 18], [21, 18], [19, 22, 18], [23, 18], [18], [25, 18], [24, 26, 18, 18], [18, 27, 14], [14, 28], [29, 27], [30, 30], [30, 31], [32, 31, 0, 1, 2, 3, 4, 5, 6, 7, 8, 9, 10, 11, 12, 13, 14, 15, 16, 17, 18, 19, 20, 21, 22, 23, 24, 25, 26, 27, 28, 29, 30, 31, 32]] [(14, .int .i64 0), (19, .int .i64 sv), (10, .pointer (some ⟨rb, 0, none⟩)), (12, .slice rA 0 rc), (27, .int .i64 0)] (fun W _ => Below wr.heap.size wr W) (r42E sv rb rc rA) (fun _ _ _ => True) (by kernel_rfl) (by kernel_rfl) rfl (by kernel_rfl) ?_ ?_ ⟨fun _ => 0, (Below.refl _ _).drew, fun i _ => trivial⟩ ?_ ?_
                        · intro z hz
                          simp only [List.mem_cons, List.mem_nil_iff, or_false] at hz
                          rcases hz with rfl | rfl | rfl | rfl | rfl
                          all_goals exact ⟨by kernel_rfl, rfl⟩
                        · intro i v W γ hi h
                          rcases i with _ | _ | _ | _ | _ | _ | _ | _ | _ | _ | _ | _ | _ | _ | _ | _ | _ | _ | _ | _ | _ | _ | _ | _ | _ | _ | _ | _ | _ | _ | _ | _ | _ | _ | i
                          all_goals first | exact h | (simp at hi)
                        · refine ⟨?_, ?_, ?_, ?_, ?_, ?_, ?_, ?_, ?_, ?_, ?_, ?_, ?_, ?_, ?_, ?_, ?_, ?_, ?_, ?_, ?_, ?_, ?_, ?_, ?_, ?_, ?_, ?_, ?_, ?_, ?_, ?_, ?_, ?_, trivial⟩
                          all_goals
                            intro a W γ ev hcc hff hfx hR hψ hpre
                            simp only [List.mem_cons, List.mem_nil_iff, or_false, forall_eq, forall_eq_or_imp] at hfx
                            obtain ⟨f0, f1, f2, f3, f4⟩ := hfx
                            have HR := Lib.hid hR
                            clear hR
                          · refine ⟨fun hg K hK => ?_, trivial⟩
                            clear hg
                            clear hpre hψ
                            go_simp
                            exact hK _ _ γ HR.out (fun _ _ _ _ h => h) (fun _ _ _ h => h) rfl
                          · refine ⟨fun hg K hK => ?_, trivial⟩
                            clear hg
                            have q0 : ev (.tmp 165) = _ := hpre 0 (by decide)
                            clear hpre hψ
                            go_simp
                            exact hK _ _ γ HR.out (fun _ _ _ _ h => h) (fun _ _ _ h => h) rfl
                          · refine ⟨fun hg K hK => ?_, trivial⟩
                            clear hg
                            have q0 : ev (.tmp 166) = _ := hpre 1 (by decide)
                            clear hpre hψ
                            go_simp
                            exact hK _ _ γ HR.out (fun _ _ _ _ h => h) (fun _ _ _ h => h) rfl
                          · refine ⟨fun hg K hK => ?_, fun hg => (hg (hpre 2 (by decide))).elim⟩
                            clear hg
                            clear hpre hψ
                            go_simp
                            exact hK _ _ γ HR.out (fun _ _ _ _ h => h) (fun _ _ _ h => h) rfl
                          · refine ⟨fun hg K hK => ?_, fun hg => (hg (hpre 2 (by decide))).elim⟩
                            clear hg
                            clear hpre hψ
                            go_simp
                            exact hK _ _ γ HR.out (fun _ _ _ _ h => h) (fun _ _ _ h => h) rfl
                          · refine ⟨fun hg K hK => ?_, fun hg => (hg (hpre 2 (by decide))).elim⟩
                            clear hg
                            have q0 : ev (.tmp 169) = _ := hpre 4 (by decide)
                            have hb := HRESr.out.below (HR.out : Below wr.heap.size wr W) HRESr.out.lt
                            have hzz := hb.lt
                            have hd : W.cell? ⟨rb, 3, none⟩ = some (.int .i64 sv) := hb.cell 3
                            clear hb
                            clear hpre hψ
                            go_simp
                            exact hK _ _ γ HR.out (fun _ _ _ _ h => h) (fun _ _ _ h => h) rfl
                          · refine ⟨fun hg K hK => ?_, fun hg => (hg (hpre 2 (by decide))).elim⟩
                            clear hg
                            have q0 : ev (.tmp 168) = _ := hpre 3 (by decide)
                            have q1 : ev (.tmp 170) = _ := hpre 5 (by decide)
                            clear hpre hψ
                            go_simp
                            exact hK _ _ γ HR.out (fun _ _ _ _ h => h) (fun _ _ _ h => h) rfl
                          · refine ⟨fun hg K hK => ?_, trivial⟩
                            clear hg
                            have q0 : ev (.tmp 167) = _ := hpre 2 (by decide)
                            have q1 : ev (.tmp 171) = _ := hpre 6 (by decide)
                            clear hpre hψ
                            go_simp
                            exact hK _ _ γ HR.out (fun _ _ _ _ h => h) (fun _ _ _ h => h) rfl
                          · refine ⟨fun hg K hK => ?_, trivial⟩
                            clear hg
                            have q0 : ev (.tmp 172) = _ := hpre 7 (by decide)
                            clear hpre hψ
                            go_simp
                            exact hK _ _ γ HR.out (fun _ _ _ _ h => h) (fun _ _ _ h => h) rfl
                          · refine ⟨fun hg K hK => ?_, fun hg => (hg (hpre 8 (by decide))).elim⟩
                            clear hg
                            clear hpre hψ
                            go_simp
                            exact hK _ _ γ HR.out (fun _ _ _ _ h => h) (fun _ _ _ h => h) rfl
                          · refine ⟨fun hg K hK => ?_, fun hg => (hg (hpre 8 (by decide))).elim⟩
                            clear hg
                            have q0 : ev (.tmp 174) = _ := hpre 9 (by decide)
                            clear hpre hψ
                            go_simp
                            exact hK _ _ γ HR.out (fun _ _ _ _ h => h) (fun _ _ _ h => h) rfl
                          · refine ⟨fun hg K hK => ?_, fun hg => (hg (hpre 8 (by decide))).elim⟩
                            clear hg
                            clear hpre hψ
                            go_simp
                            exact hK _ _ γ HR.out (fun _ _ _ _ h => h) (fun _ _ _ h => h) rfl
                          · refine ⟨fun hg K hK => ?_, fun hg => (hg (hpre 8 (by decide))).elim⟩
                            clear hg
                            have q0 : ev (.tmp 175) = _ := hpre 10 (by decide)
                            have q1 : ev (.tmp 176) = _ := hpre 11 (by decide)
                            clear hpre hψ
                            go_simp
                            exact hK _ _ γ HR.out (fun _ _ _ _ h => h) (fun _ _ _ h => h) rfl
                          · refine ⟨fun hg K hK => ?_, trivial⟩
                            clear hg
                            have q0 : ev (.tmp 173) = _ := hpre 8 (by decide)
                            have q1 : ev (.tmp 177) = _ := hpre 12 (by decide)
                            clear hpre hψ
                            go_simp
                            exact hK _ _ γ HR.out (fun _ _ _ _ h => h) (fun _ _ _ h => h) rfl
                          · refine ⟨fun hg K hK => ?_, trivial⟩
                            clear hg
                            have q0 : ev (.tmp 178) = _ := hpre 13 (by decide)
                            clear hpre hψ
                            go_simp
                            exact hK _ _ γ HR.out (fun _ _ _ _ h => h) (fun _ _ _ h => h) rfl
                          · refine ⟨fun hg K hK => ?_, fun hg => (hg (hpre 14 (by decide))).elim⟩
                            clear hg
                            clear hpre hψ
                            go_simp
                            exact hK _ _ γ HR.out (fun _ _ _ _ h => h) (fun _ _ _ h => h) rfl
                          · refine ⟨fun hg K hK => ?_, fun hg => (hg (hpre 14 (by decide))).elim⟩
                            clear hg
                            have q0 : ev (.tmp 180) = _ := hpre 15 (by decide)
                            clear hpre hψ
                            go_simp
                            exact hK _ _ γ HR.out (fun _ _ _ _ h => h) (fun _ _ _ h => h) rfl
                          · refine ⟨fun hg K hK => ?_, fun hg => (hg (hpre 14 (by decide))).elim⟩
                            clear hg
                            have q0 : ev (.tmp 181) = _ := hpre 16 (by decide)
                            clear hpre hψ
                            go_simp
                            exact hK _ _ γ HR.out (fun _ _ _ _ h => h) (fun _ _ _ h => h) rfl
                          · refine ⟨fun hg K hK => ?_, fun hg => (hg (hpre 14 (by decide))).elim⟩
                            clear hg
                            have q0 : ev (.tmp 182) = _ := hpre 17 (by decide)
                            clear hpre hψ
                            go_simp
                            exact hK _ _ γ HR.out (fun _ _ _ _ h => h) (fun _ _ _ h => h) rfl
                          · refine ⟨fun hg K hK => ?_, fun _ => trivial⟩
                            have h := Eq.trans (Eq.symm (hpre 18 (by decide))) hg
                            cases h
                          · refine ⟨fun hg K hK => ?_, fun _ => trivial⟩
                            have h := Eq.trans (Eq.symm (hpre 18 (by decide))) hg
                            cases h
                          · refine ⟨fun hg K hK => ?_, fun _ => trivial⟩
                            have h := Eq.trans (Eq.symm (hpre 18 (by decide))) hg
                            cases h
                          · refine ⟨fun hg K hK => ?_, fun _ => trivial⟩
                            have h := Eq.trans (Eq.symm (hpre 18 (by decide))) hg
                            cases h
                          · refine ⟨fun hg K hK => ?_, fun _ => trivial⟩
                            have h := Eq.trans (Eq.symm (hpre 18 (by decide))) hg
                            cases h
                          · refine ⟨fun hg K hK => ?_, fun _ => trivial⟩
                            have h := Eq.trans (Eq.symm (hpre 18 (by decide))) hg
                            cases h
                          · refine ⟨fun hg K hK => ?_, fun _ => trivial⟩
                            have h := Eq.trans (Eq.symm (hpre 18 (by decide))) hg
                            cases h
                          · refine ⟨fun hg K hK => ?_, fun _ => trivial⟩
                            have h := Eq.trans (Eq.symm (hpre 18 (by decide))) hg
                            cases h
                          · refine ⟨fun hg K hK => ?_, fun _ => trivial⟩
                            have h := Eq.trans (Eq.symm (hpre 18 (by decide))) hg
                            cases h
                          · refine ⟨fun hg K hK => ?_, fun hg => (hg (hpre 14 (by decide))).elim⟩
                            clear hg
                            have q0 : ev (.tmp 183) = _ := hpre 18 (by decide)
                            clear hpre hψ
                            go_simp
                            exact hK _ _ γ HR.out (fun _ _ _ _ h => h) (fun _ _ _ h => h) rfl
                          · refine ⟨fun hg K hK => ?_, trivial⟩
                            clear hg
                            have q0 : ev (.tmp 179) = _ := hpre 14 (by decide)
                            have q1 : ev (.tmp 193) = _ := hpre 28 (by decide)
                            clear hpre hψ
                            go_simp
                            exact hK _ _ γ HR.out (fun _ _ _ _ h => h) (fun _ _ _ h => h) rfl
                          · refine ⟨fun hg K hK => ?_, trivial⟩
                            clear hg
                            have q0 : ev (.tmp 194) = _ := hpre 29 (by decide)
                            clear hpre hψ
                            go_simp
                            exact hK _ _ γ HR.out (fun _ _ _ _ h => h) (fun _ _ _ h => h) rfl
                          · refine ⟨fun hg K hK => ?_, fun hg => (hg (hpre 30 (by decide))).elim⟩
                            clear hg
                            have C := Lib.hid (KA.out W)
                            have HRW9 : Hid (Below wr.heap.size wr W) := HR
                            clear hpre
                            go_simp
                            refine C.out.mono ?_
                            rintro e w9 ⟨rfl, hB9⟩
                            exact hK _ w9 γ (below3 HRW9.out hB9 (Nat.le_refl _)) (fun _ _ _ _ h => r42E_w h) (fun _ _ _ h => h) rfl
                          · refine ⟨fun hg K hK => ?_, trivial⟩
                            clear hg
                            have q0 : ev (.tmp 195) = _ := hpre 30 (by decide)
                            have q1 : ev (.tmp 196) = _ := hpre 31 (by decide)
                            clear hpre hψ
                            go_simp
                            exact hK _ _ γ HR.out (fun _ _ _ _ h => h) (fun _ _ _ h => h) rfl
                          · refine ⟨fun hg K hK => ?_, trivial⟩
                            clear hg
                            have q0 : ev (.tmp 197) = _ := hpre 32 (by decide)
                            clear hpre hψ
                            go_simp
                            exact hK _ _ γ HR.out (fun _ _ _ _ h => h) (fun _ _ _ h => h) rfl
                        · intro vs w' γ hvl hR hφ
                          have qe : vs.getD 33 undef = .bool true := hφ 33 (by decide)
                          have HR := Lib.hid hR
                          clear hφ hR
                          match vs, hvl with
                          | y0 :: y1 :: y2 :: y3 :: y4 :: y5 :: y6 :: y7 :: y8 :: y9 :: y10 :: y11 :: y12 :: y13 :: y14 :: y15 :: y16 :: y17 :: y18 :: y19 :: y20 :: y21 :: y22 :: y23 :: y24 :: y25 :: y26 :: y27 :: y28 :: y29 :: y30 :: y31 :: y32 :: y33 :: [], _ =>
                          simp only [List.getD_cons_zero, List.getD_cons_succ] at qe
                          subst qe
                          have HRF : Hid (Below w.heap.size w w') := Lib.hid (below3 (below3 HL5.out hB.out (Nat.le_refl _)) HR.out (Nat.le_refl _))
                          clear HR
                          simp [putAll]
                          go_wp2
                          go_ret
                          exact ⟨rfl, HRF.out⟩
                    · obtain ⟨ru, hru⟩ : ∃ ru, rl = ru + 1 := ⟨rl - 1, by omega⟩
                      obtain ⟨lb, lo, g, e1, hlb0, hg, hcg⟩ := (HRWR.out.below hB.out).at_ (show ru < rl by omega)
                      have HCL : Hid (wr.cell? ⟨lb, lo + ru, none⟩ = some (.slice (some ⟨g, 0, none⟩) k k)) := Lib.hid (by
                        rw [HBN.out]
                        simpa [slV] using hcg 0 _ rfl)
                      have hlb : lb < wr.heap.size := by omega
                      obtain ⟨r, hr⟩ : ∃ r, rows[ru]? = some r := ⟨_, List.getElem?_eq_getElem (by rw [HRE.out.len, ← HRLN.out]; omega)⟩
                      have hGB := (HRW.out.2.2 ru g r hg hr).2
                      obtain rfl : r = energies Pl := HRE.out.last r (by rw [← HRLN.out, show rl - 1 = ru by omega]; exact hr)
                      have RG : Rd wr wr.heap.size 1 encI (some ⟨g, 0, none⟩) k (energies Pl) := by
                        have h := Blk.rdI (hGB.below hB.out hGB.lt)
                        rw [HEN.out] at h
                        exact h
                      have R1 : Rd wr wr.heap.size 1 encI (some ⟨g1, 0, none⟩) k (energies Pl) := by
                        have h := Blk.rdI (HG1.out.below hB.out HG1.out.lt)
                        rw [HEN.out] at h
                        exact h
                      have hsame : sameL (energies Pl) (energies Pl) = true := decide_eq_true rfl
                      have KS : Hid (∀ W, Below wr.heap.size wr W → Calls Try.prog 19 #[.slice (some ⟨g, 0, none⟩) k k, .slice (some ⟨g1, 0, none⟩) k k] W fun e w' => e = .returned (.bool true) ∧ Below W.heap.size W w') := Lib.hid (fun W hW => by
                        have h := SameInts_any (some ⟨g, 0, none⟩) (some ⟨g1, 0, none⟩) k k k k (energies Pl) (energies Pl) W (RG.next hW) (R1.next hW) (by omega) (by omega)
                        rw [hsame] at h
                        exact h)
                      have wru : IntKind.i64.wrap ((rl : Int) - 1) = (ru : Int) := by rw [show (rl : Int) - 1 = (ru : Int) by omega]; exact IntWalk.i64_in _ (by omega)
                      have hr0 : (0 : Int) ≤ (ru : Int) := by omega
                      have hr1 : (ru : Int) < (rl : Int) := by omega
                      have hne : ((rl : Int) == 0) = false := beq_eq_false_iff_ne.2 (by omega)
                      subst e1
                      clear HRE hg hcg hr hGB RG R1 hsame hru
                      rcases hcase with ⟨rfl, hte⟩ | rfl
                      · rw [hte]
                        clear hte
                        go_wp2
                        clear d0
                        refine wp_region_free10 33 (by kernel_rfl) [some 165, some 166, some 167, some 168, some 169, some 170, some 171, some 172, some 173, some 174, some 175, some 176, some 177, some 178, some 179, some 180, some 181, some 182, some 183, some 184, some 185, some 186, some 187, some 188, some 189, some 190, some 191, some 192, some 193, some 194, some 195, some 196, some 197, some 6] [[], [0], [1], [2], [2], [4, 2], [3, 5, 2], [2, 6], [7, 2], [8], [9, 8], [8], [10, 11, 8], [8, 12], [13, 8], [14], [15, 14], [16, 14], [17, 14, 14], [18], [18], [20, 18], [21, 18], [19, 22, 18], [23, 18], [18], [25, 18], [24, 26, 18, 18], [18, 27, 14], [14, 28], [29, 27], [30, 30], [30, 31], [32, 31, 0, 1, 2, 3, 4, 5, 6, 7, 8, 9, 10, 11, 12, 13, 14, 15, 16, 17, 18, 19, 20, 21, 22, 23, 24, 25, 26, 27, 28, 29, 30, 31, 32]] [(14, .int .i64 0), (19, .int .i64 sv), (10, .pointer (some ⟨rb, 0, none⟩)), (12, .slice (some ⟨lb, lo, none⟩) rl rc), (27, .int .i64 rl)] (fun W _ => Below wr.heap.size wr W) (r42N sv rb rc rl ru lb lo g g1 k) (fun _ _ _ => True) (by kernel_rfl) (by kernel_rfl) rfl (by kernel_rfl) ?_ ?_ ⟨fun _ => 0, (Below.refl _ _).drew, fun i _ => trivial⟩ ?_ ?_
                        · intro z hz
                          simp only [List.mem_cons, List.mem_nil_iff, or_false] at hz
                          rcases hz with rfl | rfl | rfl | rfl | rfl
                          all_goals exact ⟨by kernel_rfl, rfl⟩
                        · intro i v W γ hi h
                          rcases i with _ | _ | _ | _ | _ | _ | _ | _ | _ | _ | _ | _ | _ | _ | _ | _ | _ | _ | _ | _ | _ | _ | _ | _ | _ | _ | _ | _ | _ | _ | _ | _ | _ | _ | i
                          all_goals first | exact h | (simp at hi)
                        · refine ⟨?_, ?_, ?_, ?_, ?_, ?_, ?_, ?_, ?_, ?_, ?_, ?_, ?_, ?_, ?_, ?_, ?_, ?_, ?_, ?_, ?_, ?_, ?_, ?_, ?_, ?_, ?_, ?_, ?_, ?_, ?_, ?_, ?_, ?_, trivial⟩
                          all_goals
                            intro a W γ ev hcc hff hfx hR hψ hpre
                            simp only [List.mem_cons, List.mem_nil_iff, or_false, forall_eq, forall_eq_or_imp] at hfx
                            obtain ⟨f0, f1, f2, f3, f4⟩ := hfx
                            have HR := Lib.hid hR
                            clear hR
                          · refine ⟨fun hg K hK => ?_, trivial⟩
                            clear hg
                            clear hpre hψ
                            go_simp
                            exact hK _ _ γ HR.out (fun _ _ _ _ h => h) (fun _ _ _ h => h) rfl
                          · refine ⟨fun hg K hK => ?_, trivial⟩
                            clear hg
                            have q0 : ev (.tmp 165) = _ := hpre 0 (by decide)
                            clear hpre hψ
                            go_simp
                            exact hK _ _ γ HR.out (fun _ _ _ _ h => h) (fun _ _ _ h => h) rfl
                          · refine ⟨fun hg K hK => ?_, trivial⟩
                            clear hg
                            have q0 : ev (.tmp 166) = _ := hpre 1 (by decide)
                            clear hpre hψ
                            go_simp
                            exact hK _ _ γ HR.out (fun _ _ _ _ h => h) (fun _ _ _ h => h) rfl
                          · refine ⟨fun hg K hK => ?_, fun hg => (hg (hpre 2 (by decide))).elim⟩
                            clear hg
                            clear hpre hψ
                            go_simp
                            exact hK _ _ γ HR.out (fun _ _ _ _ h => h) (fun _ _ _ h => h) rfl
                          · refine ⟨fun hg K hK => ?_, fun hg => (hg (hpre 2 (by decide))).elim⟩
                            clear hg
                            clear hpre hψ
                            go_simp
                            exact hK _ _ γ HR.out (fun _ _ _ _ h => h) (fun _ _ _ h => h) rfl
                          · refine ⟨fun hg K hK => ?_, fun hg => (hg (hpre 2 (by decide))).elim⟩
                            clear hg
                            have q0 : ev (.tmp 169) = _ := hpre 4 (by decide)
                            have hb := HRESr.out.below (HR.out : Below wr.heap.size wr W) HRESr.out.lt
                            have hzz := hb.lt
                            have hd : W.cell? ⟨rb, 3, none⟩ = some (.int .i64 sv) := hb.cell 3
                            clear hb
                            clear hpre hψ
                            go_simp
                            exact hK _ _ γ HR.out (fun _ _ _ _ h => h) (fun _ _ _ h => h) rfl
                          · refine ⟨fun hg K hK => ?_, fun hg => (hg (hpre 2 (by decide))).elim⟩
                            clear hg
                            have q0 : ev (.tmp 168) = _ := hpre 3 (by decide)
                            have q1 : ev (.tmp 170) = _ := hpre 5 (by decide)
                            clear hpre hψ
                            go_simp
                            exact hK _ _ γ HR.out (fun _ _ _ _ h => h) (fun _ _ _ h => h) rfl
                          · refine ⟨fun hg K hK => ?_, trivial⟩
                            clear hg
                            have q0 : ev (.tmp 167) = _ := hpre 2 (by decide)
                            have q1 : ev (.tmp 171) = _ := hpre 6 (by decide)
                            clear hpre hψ
                            go_simp
                            exact hK _ _ γ HR.out (fun _ _ _ _ h => h) (fun _ _ _ h => h) rfl
                          · refine ⟨fun hg K hK => ?_, trivial⟩
                            clear hg
                            have q0 : ev (.tmp 172) = _ := hpre 7 (by decide)
                            clear hpre hψ
                            go_simp
                            exact hK _ _ γ HR.out (fun _ _ _ _ h => h) (fun _ _ _ h => h) rfl
                          · refine ⟨fun hg K hK => ?_, fun hg => (hg (hpre 8 (by decide))).elim⟩
                            clear hg
                            clear hpre hψ
                            go_simp
                            exact hK _ _ γ HR.out (fun _ _ _ _ h => h) (fun _ _ _ h => h) rfl
                          · refine ⟨fun hg K hK => ?_, fun hg => (hg (hpre 8 (by decide))).elim⟩
                            clear hg
                            have q0 : ev (.tmp 174) = _ := hpre 9 (by decide)
                            clear hpre hψ
                            go_simp
                            exact hK _ _ γ HR.out (fun _ _ _ _ h => h) (fun _ _ _ h => h) rfl
                          · refine ⟨fun hg K hK => ?_, fun hg => (hg (hpre 8 (by decide))).elim⟩
                            clear hg
                            clear hpre hψ
                            go_simp
                            exact hK _ _ γ HR.out (fun _ _ _ _ h => h) (fun _ _ _ h => h) rfl
                          · refine ⟨fun hg K hK => ?_, fun hg => (hg (hpre 8 (by decide))).elim⟩
                            clear hg
                            have q0 : ev (.tmp 175) = _ := hpre 10 (by decide)
                            have q1 : ev (.tmp 176) = _ := hpre 11 (by decide)
                            clear hpre hψ
                            go_simp
                            exact hK _ _ γ HR.out (fun _ _ _ _ h => h) (fun _ _ _ h => h) rfl
                          · refine ⟨fun hg K hK => ?_, trivial⟩
                            clear hg
                            have q0 : ev (.tmp 173) = _ := hpre 8 (by decide)
                            have q1 : ev (.tmp 177) = _ := hpre 12 (by decide)
                            clear hpre hψ
                            go_simp
                            exact hK _ _ γ HR.out (fun _ _ _ _ h => h) (fun _ _ _ h => h) rfl
                          · refine ⟨fun hg K hK => ?_, trivial⟩
                            clear hg
                            have q0 : ev (.tmp 178) = _ := hpre 13 (by decide)
                            clear hpre hψ
                            go_simp
                            exact hK _ _ γ HR.out (fun _ _ _ _ h => h) (fun _ _ _ h => h) rfl
                          · refine ⟨fun hg K hK => ?_, fun hg => (hg (hpre 14 (by decide))).elim⟩
                            clear hg
                            clear hpre hψ
                            go_simp
                            exact hK _ _ γ HR.out (fun _ _ _ _ h => h) (fun _ _ _ h => h) rfl
                          · refine ⟨fun hg K hK => ?_, fun hg => (hg (hpre 14 (by decide))).elim⟩
                            clear hg
                            have q0 : ev (.tmp 180) = _ := hpre 15 (by decide)
                            clear hpre hψ
                            go_simp
                            exact hK _ _ γ HR.out (fun _ _ _ _ h => h) (fun _ _ _ h => h) rfl
                          · refine ⟨fun hg K hK => ?_, fun hg => (hg (hpre 14 (by decide))).elim⟩
                            clear hg
                            have q0 : ev (.tmp 181) = _ := hpre 16 (by decide)
                            clear hpre hψ
                            go_simp
                            exact hK _ _ γ HR.out (fun _ _ _ _ h => h) (fun _ _ _ h => h) rfl
                          · refine ⟨fun hg K hK => ?_, fun hg => (hg (hpre 14 (by decide))).elim⟩
                            clear hg
                            have q0 : ev (.tmp 182) = _ := hpre 17 (by decide)
                            clear hpre hψ
                            go_simp
                            exact hK _ _ γ HR.out (fun _ _ _ _ h => h) (fun _ _ _ h => h) rfl
                          · refine ⟨fun hg K hK => ?_, fun hg => (hg (hpre 18 (by decide))).elim⟩
                            clear hg
                            clear hpre hψ
                            go_simp
                            exact hK _ _ γ HR.out (fun _ _ _ _ h => h) (fun _ _ _ h => h) rfl
                          · refine ⟨fun hg K hK => ?_, fun hg => (hg (hpre 18 (by decide))).elim⟩
                            clear hg
                            clear hpre hψ
                            go_simp
                            exact hK _ _ γ HR.out (fun _ _ _ _ h => h) (fun _ _ _ h => h) rfl
                          · refine ⟨fun hg K hK => ?_, fun hg => (hg (hpre 18 (by decide))).elim⟩
                            clear hg
                            have q0 : ev (.tmp 185) = _ := hpre 20 (by decide)
                            clear hpre hψ
                            go_simp
                            exact hK _ _ γ HR.out (fun _ _ _ _ h => h) (fun _ _ _ h => h) rfl
                          · refine ⟨fun hg K hK => ?_, fun hg => (hg (hpre 18 (by decide))).elim⟩
                            clear hg
                            have q0 : ev (.tmp 186) = _ := hpre 21 (by decide)
                            clear hpre hψ
                            go_simp
                            exact hK _ _ γ HR.out (fun _ _ _ _ h => h) (fun _ _ _ h => h) rfl
                          · refine ⟨fun hg K hK => ?_, fun hg => (hg (hpre 18 (by decide))).elim⟩
                            clear hg
                            have q0 : ev (.tmp 184) = _ := hpre 19 (by decide)
                            have q1 : ev (.tmp 187) = _ := hpre 22 (by decide)
                            clear hpre hψ
                            go_simp
                            exact hK _ _ γ HR.out (fun _ _ _ _ h => h) (fun _ _ _ h => h) rfl
                          · refine ⟨fun hg K hK => ?_, fun hg => (hg (hpre 18 (by decide))).elim⟩
                            clear hg
                            have q0 : ev (.tmp 188) = _ := hpre 23 (by decide)
                            have hd : W.cell? ⟨lb, lo + ru, none⟩ = some (.slice (some ⟨g, 0, none⟩) k k) := ((HR.out : Below wr.heap.size wr W).cell (p := ⟨lb, lo + ru, none⟩) hlb).trans HCL.out
                            have hzz : lb < W.heap.size := Nat.lt_of_lt_of_le hlb (HR.out : Below wr.heap.size wr W).size
                            clear hpre hψ
                            go_simp
                            exact hK _ _ γ HR.out (fun _ _ _ _ h => h) (fun _ _ _ h => h) rfl
                          · refine ⟨fun hg K hK => ?_, fun hg => (hg (hpre 18 (by decide))).elim⟩
                            clear hg
                            clear hpre hψ
                            go_simp
                            exact hK _ _ γ HR.out (fun _ _ _ _ h => h) (fun _ _ _ h => h) rfl
                          · refine ⟨fun hg K hK => ?_, fun hg => (hg (hpre 18 (by decide))).elim⟩
                            clear hg
                            have q0 : ev (.tmp 190) = _ := hpre 25 (by decide)
                            have hb := HRESr.out.below (HR.out : Below wr.heap.size wr W) HRESr.out.lt
                            have hzz := hb.lt
                            have hd : W.cell? ⟨rb, 1, none⟩ = some (.slice (some ⟨g1, 0, none⟩) k k) := hb.cell 1
                            clear hb
                            clear hpre hψ
                            go_simp
                            exact hK _ _ γ HR.out (fun _ _ _ _ h => h) (fun _ _ _ h => h) rfl
                          · refine ⟨fun hg K hK => ?_, fun hg => (hg (hpre 18 (by decide))).elim⟩
                            clear hg
                            have q0 : ev (.tmp 189) = _ := hpre 24 (by decide)
                            have q1 : ev (.tmp 191) = _ := hpre 26 (by decide)
                            have C := Lib.hid (KS.out W (HR.out : Below wr.heap.size wr W))
                            have HRW9 : Hid (Below wr.heap.size wr W) := HR
                            clear hpre
                            go_simp
                            refine C.out.mono ?_
                            rintro e w9 ⟨rfl, hB9⟩
                            exact hK _ w9 γ (below3 HRW9.out hB9 (Nat.le_refl _)) (fun _ _ _ _ h => r42N_w h) (fun _ _ _ h => h) rfl
                          · refine ⟨fun hg K hK => ?_, fun hg => (hg (hpre 14 (by decide))).elim⟩
                            clear hg
                            have q0 : ev (.tmp 183) = _ := hpre 18 (by decide)
                            have q1 : ev (.tmp 192) = _ := hpre 27 (by decide)
                            clear hpre hψ
                            go_simp
                            exact hK _ _ γ HR.out (fun _ _ _ _ h => h) (fun _ _ _ h => h) rfl
                          · refine ⟨fun hg K hK => ?_, trivial⟩
                            clear hg
                            have q0 : ev (.tmp 179) = _ := hpre 14 (by decide)
                            have q1 : ev (.tmp 193) = _ := hpre 28 (by decide)
                            clear hpre hψ
                            go_simp
                            exact hK _ _ γ HR.out (fun _ _ _ _ h => h) (fun _ _ _ h => h) rfl
                          · refine ⟨fun hg K hK => ?_, trivial⟩
                            clear hg
                            have q0 : ev (.tmp 194) = _ := hpre 29 (by decide)
                            clear hpre hψ
                            go_simp
                            exact hK _ _ γ HR.out (fun _ _ _ _ h => h) (fun _ _ _ h => h) rfl
                          · refine ⟨fun hg K hK => ?_, fun hg => (hg (hpre 30 (by decide))).elim⟩
                            clear hg
                            have C := Lib.hid (KA.out W)
                            have HRW9 : Hid (Below wr.heap.size wr W) := HR
                            clear hpre
                            go_simp
                            refine C.out.mono ?_
                            rintro e w9 ⟨rfl, hB9⟩
                            exact hK _ w9 γ (below3 HRW9.out hB9 (Nat.le_refl _)) (fun _ _ _ _ h => r42N_w h) (fun _ _ _ h => h) rfl
                          · refine ⟨fun hg K hK => ?_, trivial⟩
                            clear hg
                            have q0 : ev (.tmp 195) = _ := hpre 30 (by decide)
                            have q1 : ev (.tmp 196) = _ := hpre 31 (by decide)
                            clear hpre hψ
                            go_simp
                            exact hK _ _ γ HR.out (fun _ _ _ _ h => h) (fun _ _ _ h => h) rfl
                          · refine ⟨fun hg K hK => ?_, trivial⟩
                            clear hg
                            have q0 : ev (.tmp 197) = _ := hpre 32 (by decide)
                            clear hpre hψ
                            go_simp
                            exact hK _ _ γ HR.out (fun _ _ _ _ h => h) (fun _ _ _ h => h) rfl
                        · intro vs w' γ hvl hR hφ
                          have qe : vs.getD 33 undef = .bool true := hφ 33 (by decide)
                          have HR := Lib.hid hR
                          clear hφ hR
                          match vs, hvl with
                          | y0 :: y1 :: y2 :: y3 :: y4 :: y5 :: y6 :: y7 :: y8 :: y9 :: y10 :: y11 :: y12 :: y13 :: y14 :: y15 :: y16 :: y17 :: y18 :: y19 :: y20 :: y21 :: y22 :: y23 :: y24 :: y25 :: y26 :: y27 :: y28 :: y29 :: y30 :: y31 :: y32 :: y33 :: [], _ =>
                          simp only [List.getD_cons_zero, List.getD_cons_succ] at qe
                          subst qe
                          have HRF : Hid (Below w.heap.size w w') := Lib.hid (below3 (below3 HL5.out hB.out (Nat.le_refl _)) HR.out (Nat.le_refl _))
                          clear HR
                          simp [putAll]
                          go_wp2
                          go_ret
                          exact ⟨rfl, HRF.out⟩
                      · have hdd : ¬ ((rl : Int) < 0) := by omega
                        go_wp2
                        clear d0
                        refine wp_region_free10 33 (by kernel_rfl) [some 165, some 166, some 167, some 168, some 169, some 170, some 171, some 172, some 173, some 174, some 175, some 176, some 177, some 178, some 179, some 180, some 181, some 182, some 183, some 184, some 185, some 186, some 187, some 188, some 189, some 190, some 191, some 192, some 193, some 194, some 195, some 196, some 197, some 6] [[], [0], [1], [2], [2], [4, 2], [3, 5, 2], [2, 6], [7, 2], [8], [9, 8], [8], [10, 11, 8], [8, 12], [13, 8], [14], [15, 14], [16, 14], [17, 14, 14], [18], [18], [20, 18], [21, 18], [19, 22, 18], [23, 18], [18], [25, 18], [24, 26, 18, 18], [18, 27, 14], [14, 28], [29, 27], [30, 30], [30, 31], [32, 31, 0, 1, 2, 3, 4, 5, 6, 7, 8, 9, 10, 11, 12, 13, 14, 15, 16, 17, 18, 19, 20, 21, 22, 23, 24, 25, 26, 27, 28, 29, 30, 31, 32]] [(14, .int .i64 0), (19, .int .i64 sv), (10, .pointer (some ⟨rb, 0, none⟩)), (12, .slice (some ⟨lb, lo, none⟩) rl rc), (27, .int .i64 rl)] (fun W _ => Below wr.heap.size wr W) (r42N sv rb rc rl ru lb lo g g1 k) (fun _ _ _ => True) (by kernel_rfl) (by kernel_rfl) rfl (by kernel_rfl) ?_ ?_ ⟨fun _ => 0, (Below.refl _ _).drew, fun i _ => trivial⟩ ?_ ?_
                        · intro z hz
                          simp only [List.mem_cons, List.mem_nil_iff, or_false] at hz
                          rcases hz with rfl | rfl | rfl | rfl | rfl
                          all_goals exact ⟨by kernel_rfl, rfl⟩
                        · intro i v W γ hi h
                          rcases i with _ | _ | _ | _ | _ | _ | _ | _ | _ | _ | _ | _ | _ | _ | _ | _ | _ | _ | _ | _ | _ | _ | _ | _ | _ | _ | _ | _ | _ | _ | _ | _ | _ | _ | i
                          all_goals first | exact h | (simp at hi)
                        · refine ⟨?_, ?_, ?_, ?_, ?_, ?_, ?_, ?_, ?_, ?_, ?_, ?_, ?_, ?_, ?_, ?_, ?_, ?_, ?_, ?_, ?_, ?_, ?_, ?_, ?_, ?_, ?_, ?_, ?_, ?_, ?_, ?_, ?_, ?_, trivial⟩
                          all_goals
                            intro a W γ ev hcc hff hfx hR hψ hpre
                            simp only [List.mem_cons, List.mem_nil_iff, or_false, forall_eq, forall_eq_or_imp] at hfx
                            obtain ⟨f0, f1, f2, f3, f4⟩ := hfx
                            have HR := Lib.hid hR
                            clear hR
                          · refine ⟨fun hg K hK => ?_, trivial⟩
                            clear hg
                            clear hpre hψ
                            go_simp
                            exact hK _ _ γ HR.out (fun _ _ _ _ h => h) (fun _ _ _ h => h) rfl
                          · refine ⟨fun hg K hK => ?_, trivial⟩
                            clear hg
                            have q0 : ev (.tmp 165) = _ := hpre 0 (by decide)
                            clear hpre hψ
                            go_simp
                            exact hK _ _ γ HR.out (fun _ _ _ _ h => h) (fun _ _ _ h => h) rfl
                          · refine ⟨fun hg K hK => ?_, trivial⟩
                            clear hg
                            have q0 : ev (.tmp 166) = _ := hpre 1 (by decide)
                            clear hpre hψ
                            go_simp
                            exact hK _ _ γ HR.out (fun _ _ _ _ h => h) (fun _ _ _ h => h) rfl
                          · refine ⟨fun hg K hK => ?_, fun hg => (hg (hpre 2 (by decide))).elim⟩
                            clear hg
                            clear hpre hψ
                            go_simp
                            exact hK _ _ γ HR.out (fun _ _ _ _ h => h) (fun _ _ _ h => h) rfl
                          · refine ⟨fun hg K hK => ?_, fun hg => (hg (hpre 2 (by decide))).elim⟩
                            clear hg
                            clear hpre hψ
                            go_simp
                            exact hK _ _ γ HR.out (fun _ _ _ _ h => h) (fun _ _ _ h => h) rfl
                          · refine ⟨fun hg K hK => ?_, fun hg => (hg (hpre 2 (by decide))).elim⟩
                            clear hg
                            have q0 : ev (.tmp 169) = _ := hpre 4 (by decide)
                            have hb := HRESr.out.below (HR.out : Below wr.heap.size wr W) HRESr.out.lt
                            have hzz := hb.lt
                            have hd : W.cell? ⟨rb, 3, none⟩ = some (.int .i64 sv) := hb.cell 3
                            clear hb
                            clear hpre hψ
                            go_simp
                            exact hK _ _ γ HR.out (fun _ _ _ _ h => h) (fun _ _ _ h => h) rfl
                          · refine ⟨fun hg K hK => ?_, fun hg => (hg (hpre 2 (by decide))).elim⟩
                            clear hg
                            have q0 : ev (.tmp 168) = _ := hpre 3 (by decide)
                            have q1 : ev (.tmp 170) = _ := hpre 5 (by decide)
                            clear hpre hψ
                            go_simp
                            exact hK _ _ γ HR.out (fun _ _ _ _ h => h) (fun _ _ _ h => h) rfl
                          · refine ⟨fun hg K hK => ?_, trivial⟩
                            clear hg
                            have q0 : ev (.tmp 167) = _ := hpre 2 (by decide)
                            have q1 : ev (.tmp 171) = _ := hpre 6 (by decide)
                            clear hpre hψ
                            go_simp
                            exact hK _ _ γ HR.out (fun _ _ _ _ h => h) (fun _ _ _ h => h) rfl
                          · refine ⟨fun hg K hK => ?_, trivial⟩
                            clear hg
                            have q0 : ev (.tmp 172) = _ := hpre 7 (by decide)
                            clear hpre hψ
                            go_simp
                            exact hK _ _ γ HR.out (fun _ _ _ _ h => h) (fun _ _ _ h => h) rfl
                          · refine ⟨fun hg K hK => ?_, fun hg => (hg (hpre 8 (by decide))).elim⟩
                            clear hg
                            clear hpre hψ
                            go_simp
                            exact hK _ _ γ HR.out (fun _ _ _ _ h => h) (fun _ _ _ h => h) rfl
                          · refine ⟨fun hg K hK => ?_, fun hg => (hg (hpre 8 (by decide))).elim⟩
                            clear hg
                            have q0 : ev (.tmp 174) = _ := hpre 9 (by decide)
                            clear hpre hψ
                            go_simp
                            exact hK _ _ γ HR.out (fun _ _ _ _ h => h) (fun _ _ _ h => h) rfl
                          · refine ⟨fun hg K hK => ?_, fun hg => (hg (hpre 8 (by decide))).elim⟩
                            clear hg
                            clear hpre hψ
                            go_simp
                            exact hK _ _ γ HR.out (fun _ _ _ _ h => h) (fun _ _ _ h => h) rfl
                          · refine ⟨fun hg K hK => ?_, fun hg => (hg (hpre 8 (by decide))).elim⟩
                            clear hg
                            have q0 : ev (.tmp 175) = _ := hpre 10 (by decide)
                            have q1 : ev (.tmp 176) = _ := hpre 11 (by decide)
                            clear hpre hψ
                            go_simp
                            exact hK _ _ γ HR.out (fun _ _ _ _ h => h) (fun _ _ _ h => h) rfl
                          · refine ⟨fun hg K hK => ?_, trivial⟩
                            clear hg
                            have q0 : ev (.tmp 173) = _ := hpre 8 (by decide)
                            have q1 : ev (.tmp 177) = _ := hpre 12 (by decide)
                            clear hpre hψ
                            go_simp
                            exact hK _ _ γ HR.out (fun _ _ _ _ h => h) (fun _ _ _ h => h) rfl
                          · refine ⟨fun hg K hK => ?_, trivial⟩
                            clear hg
                            have q0 : ev (.tmp 178) = _ := hpre 13 (by decide)
                            clear hpre hψ
                            go_simp
                            exact hK _ _ γ HR.out (fun _ _ _ _ h => h) (fun _ _ _ h => h) rfl
                          · refine ⟨fun hg K hK => ?_, fun hg => (hg (hpre 14 (by decide))).elim⟩
                            clear hg
                            clear hpre hψ
                            go_simp
                            exact hK _ _ γ HR.out (fun _ _ _ _ h => h) (fun _ _ _ h => h) rfl
                          · refine ⟨fun hg K hK => ?_, fun hg => (hg (hpre 14 (by decide))).elim⟩
                            clear hg
                            have q0 : ev (.tmp 180) = _ := hpre 15 (by decide)
                            clear hpre hψ
                            go_simp
                            exact hK _ _ γ HR.out (fun _ _ _ _ h => h) (fun _ _ _ h => h) rfl
                          · refine ⟨fun hg K hK => ?_, fun hg => (hg (hpre 14 (by decide))).elim⟩
                            clear hg
                            have q0 : ev (.tmp 181) = _ := hpre 16 (by decide)
                            clear hpre hψ
                            go_simp
                            exact hK _ _ γ HR.out (fun _ _ _ _ h => h) (fun _ _ _ h => h) rfl
                          · refine ⟨fun hg K hK => ?_, fun hg => (hg (hpre 14 (by decide))).elim⟩
                            clear hg
                            have q0 : ev (.tmp 182) = _ := hpre 17 (by decide)
                            clear hpre hψ
                            go_simp
                            exact hK _ _ γ HR.out (fun _ _ _ _ h => h) (fun _ _ _ h => h) rfl
                          · refine ⟨fun hg K hK => ?_, fun hg => (hg (hpre 18 (by decide))).elim⟩
                            clear hg
                            clear hpre hψ
                            go_simp
                            exact hK _ _ γ HR.out (fun _ _ _ _ h => h) (fun _ _ _ h => h) rfl
                          · refine ⟨fun hg K hK => ?_, fun hg => (hg (hpre 18 (by decide))).elim⟩
                            clear hg
                            clear hpre hψ
                            go_simp
                            exact hK _ _ γ HR.out (fun _ _ _ _ h => h) (fun _ _ _ h => h) rfl
                          · refine ⟨fun hg K hK => ?_, fun hg => (hg (hpre 18 (by decide))).elim⟩
                            clear hg
                            have q0 : ev (.tmp 185) = _ := hpre 20 (by decide)
                            clear hpre hψ
                            go_simp
                            exact hK _ _ γ HR.out (fun _ _ _ _ h => h) (fun _ _ _ h => h) rfl
                          · refine ⟨fun hg K hK => ?_, fun hg => (hg (hpre 18 (by decide))).elim⟩
                            clear hg
                            have q0 : ev (.tmp 186) = _ := hpre 21 (by decide)
                            clear hpre hψ
                            go_simp
                            exact hK _ _ γ HR.out (fun _ _ _ _ h => h) (fun _ _ _ h => h) rfl
                          · refine ⟨fun hg K hK => ?_, fun hg => (hg (hpre 18 (by decide))).elim⟩
                            clear hg
                            have q0 : ev (.tmp 184) = _ := hpre 19 (by decide)
                            have q1 : ev (.tmp 187) = _ := hpre 22 (by decide)
                            clear hpre hψ
                            go_simp
                            exact hK _ _ γ HR.out (fun _ _ _ _ h => h) (fun _ _ _ h => h) rfl
                          · refine ⟨fun hg K hK => ?_, fun hg => (hg (hpre 18 (by decide))).elim⟩
                            clear hg
                            have q0 : ev (.tmp 188) = _ := hpre 23 (by decide)
                            have hd : W.cell? ⟨lb, lo + ru, none⟩ = some (.slice (some ⟨g, 0, none⟩) k k) := ((HR.out : Below wr.heap.size wr W).cell (p := ⟨lb, lo + ru, none⟩) hlb).trans HCL.out
                            have hzz : lb < W.heap.size := Nat.lt_of_lt_of_le hlb (HR.out : Below wr.heap.size wr W).size
                            clear hpre hψ
                            go_simp
                            exact hK _ _ γ HR.out (fun _ _ _ _ h => h) (fun _ _ _ h => h) rfl
                          · refine ⟨fun hg K hK => ?_, fun hg => (hg (hpre 18 (by decide))).elim⟩
                            clear hg
                            clear hpre hψ
                            go_simp
                            exact hK _ _ γ HR.out (fun _ _ _ _ h => h) (fun _ _ _ h => h) rfl
                          · refine ⟨fun hg K hK => ?_, fun hg => (hg (hpre 18 (by decide))).elim⟩
                            clear hg
                            have q0 : ev (.tmp 190) = _ := hpre 25 (by decide)
                            have hb := HRESr.out.below (HR.out : Below wr.heap.size wr W) HRESr.out.lt
                            have hzz := hb.lt
                            have hd : W.cell? ⟨rb, 1, none⟩ = some (.slice (some ⟨g1, 0, none⟩) k k) := hb.cell 1
                            clear hb
                            clear hpre hψ
                            go_simp
                            exact hK _ _ γ HR.out (fun _ _ _ _ h => h) (fun _ _ _ h => h) rfl
                          · refine ⟨fun hg K hK => ?_, fun hg => (hg (hpre 18 (by decide))).elim⟩
                            clear hg
                            have q0 : ev (.tmp 189) = _ := hpre 24 (by decide)
                            have q1 : ev (.tmp 191) = _ := hpre 26 (by decide)
                            have C := Lib.hid (KS.out W (HR.out : Below wr.heap.size wr W))
                            have HRW9 : Hid (Below wr.heap.size wr W) := HR
                            clear hpre
                            go_simp
                            refine C.out.mono ?_
                            rintro e w9 ⟨rfl, hB9⟩
                            exact hK _ w9 γ (below3 HRW9.out hB9 (Nat.le_refl _)) (fun _ _ _ _ h => r42N_w h) (fun _ _ _ h => h) rfl
                          · refine ⟨fun hg K hK => ?_, fun hg => (hg (hpre 14 (by decide))).elim⟩
                            clear hg
                            have q0 : ev (.tmp 183) = _ := hpre 18 (by decide)
                            have q1 : ev (.tmp 192) = _ := hpre 27 (by decide)
                            clear hpre hψ
                            go_simp
                            exact hK _ _ γ HR.out (fun _ _ _ _ h => h) (fun _ _ _ h => h) rfl
                          · refine ⟨fun hg K hK => ?_, trivial⟩
                            clear hg
                            have q0 : ev (.tmp 179) = _ := hpre 14 (by decide)
                            have q1 : ev (.tmp 193) = _ := hpre 28 (by decide)
                            clear hpre hψ
                            go_simp
                            exact hK _ _ γ HR.out (fun _ _ _ _ h => h) (fun _ _ _ h => h) rfl
                          · refine ⟨fun hg K hK => ?_, trivial⟩
                            clear hg
                            have q0 : ev (.tmp 194) = _ := hpre 29 (by decide)
                            clear hpre hψ
                            go_simp
                            exact hK _ _ γ HR.out (fun _ _ _ _ h => h) (fun _ _ _ h => h) rfl
                          · refine ⟨fun hg K hK => ?_, fun hg => (hg (hpre 30 (by decide))).elim⟩
                            clear hg
                            have C := Lib.hid (KA.out W)
                            have HRW9 : Hid (Below wr.heap.size wr W) := HR
                            clear hpre
                            go_simp
                            refine C.out.mono ?_
                            rintro e w9 ⟨rfl, hB9⟩
                            exact hK _ w9 γ (below3 HRW9.out hB9 (Nat.le_refl _)) (fun _ _ _ _ h => r42N_w h) (fun _ _ _ h => h) rfl
                          · refine ⟨fun hg K hK => ?_, trivial⟩
                            clear hg
                            have q0 : ev (.tmp 195) = _ := hpre 30 (by decide)
                            have q1 : ev (.tmp 196) = _ := hpre 31 (by decide)
                            clear hpre hψ
                            go_simp
                            exact hK _ _ γ HR.out (fun _ _ _ _ h => h) (fun _ _ _ h => h) rfl
                          · refine ⟨fun hg K hK => ?_, trivial⟩
                            clear hg
                            have q0 : ev (.tmp 197) = _ := hpre 32 (by decide)
                            clear hpre hψ
                            go_simp
                            exact hK _ _ γ HR.out (fun _ _ _ _ h => h) (fun _ _ _ h => h) rfl
                        · intro vs w' γ hvl hR hφ
                          have qe : vs.getD 33 undef = .bool true := hφ 33 (by decide)
                          have HR := Lib.hid hR
                          clear hφ hR
                          match vs, hvl with
                          | y0 :: y1 :: y2 :: y3 :: y4 :: y5 :: y6 :: y7 :: y8 :: y9 :: y10 :: y11 :: y12 :: y13 :: y14 :: y15 :: y16 :: y17 :: y18 :: y19 :: y20 :: y21 :: y22 :: y23 :: y24 :: y25 :: y26 :: y27 :: y28 :: y29 :: y30 :: y31 :: y32 :: y33 :: [], _ =>
                          simp only [List.getD_cons_zero, List.getD_cons_succ] at qe
                          subst qe
                          have HRF : Hid (Below w.heap.size w w') := Lib.hid (below3 (below3 HL5.out hB.out (Nat.le_refl _)) HR.out (Nat.le_refl _))
                          clear HR
                          simp [putAll]
                          go_wp2
                          go_ret
                          exact ⟨rfl, HRF.out⟩
end Go.Proofs.Ytnpkcipeacogcaa
