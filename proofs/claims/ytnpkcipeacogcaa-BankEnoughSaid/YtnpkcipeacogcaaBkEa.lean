/- law06: BankEnough. -/
import Derived.Test.YtnpkcipeacogcaaBkWf
import Derived.Test.YtnpkcipeacogcaaBkEn

set_option linter.unusedSimpArgs false
set_option linter.unusedVariables false
namespace Go.Proofs.Ytnpkcipeacogcaa
open Go.RowKit

def enPhi (base bp : Nat) (bA : Option Addr) (bn bc : Nat) (gA : Option Addr) (gn gc : Nat) (n : Int) (bs : List Bat) : Nat → Value → World → (Nat → Nat) → Prop
  | 0, v, _, _ => v = .pointer (some ⟨bp, 0, none⟩)
  | 1, v, _, _ => v = .slice bA bn bc
  | 2, v, W, γ => ∃ A c, v = .slice A bn c ∧ (γ 0 = 0 → W.ownsRow base 34 4 (.slice A bn c) (bn) (bs.flatMap Bat.enc))
  | 3, v, _, _ => v = .int .i64 n
  | 4, v, _, _ => v = .int .i64 n
  | 5, v, _, _ => v = .agg #[.int .i64 n, .int .i64 n, .int .i64 1000000, .int .i64 0]
  | 6, v, W, γ => ∃ B, v = .slice (some ⟨B, 0, none⟩) 1 1 ∧ (γ 0 = 0 → Blk W B 34 #[.int .i64 n, .int .i64 n, .int .i64 1000000, .int .i64 0])
  | 7, v, W, γ => ∃ g c, v = .slice (some ⟨g, 0, none⟩) (bn + 1) c ∧ γ 0 ≠ 0 ∧ (γ 0 = 2 ∨ W.ownsRow base 34 4 (.slice (some ⟨g, 0, none⟩) (bn + 1) c) (bn + 1) (bs.flatMap Bat.enc ++ [.int .i64 n, .int .i64 n, .int .i64 1000000, .int .i64 0]))
  | 8, v, _, _ => v = .pointer (some ⟨bp, 1, none⟩)
  | 9, v, _, _ => v = .slice gA gn gc
  | 10, v, W, γ => ∃ g c, v = .agg #[.slice (some ⟨g, 0, none⟩) (bn + 1) c, .slice gA gn gc] ∧ γ 0 ≠ 0 ∧ (γ 0 = 2 ∨ W.ownsRow base 34 4 (.slice (some ⟨g, 0, none⟩) (bn + 1) c) (bn + 1) (bs.flatMap Bat.enc ++ [.int .i64 n, .int .i64 n, .int .i64 1000000, .int .i64 0]))
  | 11, v, W, γ => v = .pointer (some ⟨γ 1, 0, none⟩) ∧ (γ 0 = 2 ∨ (base ≤ γ 1 ∧ Blk W (γ 1) 26 #[.slice none 0 0, .slice none 0 0]))
  | 12, _, _, γ => γ 0 = 2
  | _, _, _, _ => True
def enR (base : Nat) (wB : World) (bn gn gc : Nat) (gA : Option Addr) (n : Int) (bs : List Bat) (W : World) (γ : Nat → Nat) : Prop :=
  Below wB.heap.size wB W ∧ (γ 0 = 2 → ∃ g c, Blk W (γ 1) 26 #[.slice (some ⟨g, 0, none⟩) (bn + 1) c, .slice gA gn gc] ∧ base ≤ γ 1 ∧ W.ownsRow base 34 4 (.slice (some ⟨g, 0, none⟩) (bn + 1) c) (bn + 1) (bs.flatMap Bat.enc ++ [.int .i64 n, .int .i64 n, .int .i64 1000000, .int .i64 0]))
section
variable {base bp : Nat} {bA : Option Addr} {bn bc : Nat} {gA : Option Addr} {gn gc : Nat} {n : Int} {bs : List Bat} {j : Nat} {u : Value} {W W' wB : World} {γ γ' : Nat → Nat}
theorem enPhi_next (hb : Below W.heap.size W W') (h0 : γ' 0 = γ 0) (h1 : j = 11 → γ' 1 = γ 1) (h : enPhi base bp bA bn bc gA gn gc n bs j u W γ) : enPhi base bp bA bn bc gA gn gc n bs j u W' γ' := by
  unfold enPhi at h ⊢
  split at h
  all_goals first | exact h | trivial | skip
  · obtain ⟨A, c, k1, k2⟩ := h
    exact ⟨A, c, k1, fun h => row_next (k2 (by rw [← h0]; exact h)) hb⟩
  · obtain ⟨B, k1, k2⟩ := h
    exact ⟨B, k1, fun h => (k2 (by rw [← h0]; exact h)).below hb (k2 (by rw [← h0]; exact h)).lt⟩
  · obtain ⟨g, c, k1, k2, k3⟩ := h
    exact ⟨g, c, k1, by rw [h0]; exact k2, by rw [h0]; exact k3.imp id fun h => row_next h hb⟩
  · obtain ⟨g, c, k1, k2, k3⟩ := h
    exact ⟨g, c, k1, by rw [h0]; exact k2, by rw [h0]; exact k3.imp id fun h => row_next h hb⟩
  · rw [h1 rfl, h0]
    exact ⟨h.1, h.2.imp id fun h => ⟨h.1, h.2.below hb h.2.lt⟩⟩
  · rw [h0]; exact h
theorem enPhi_1 {v : Value} {xs : List Value} {k : Nat} (h0 : γ 0 = 0) (hi : j ≠ 7) (hg : W.grownBy W' v.ownBlock) (hr : W.ownsRow base 34 4 v k xs) (h : enPhi base bp bA bn bc gA gn gc n bs j u W γ) : enPhi base bp bA bn bc gA gn gc n bs j u W' (fun i => if i = 0 then 1 else γ i) := by
  unfold enPhi at h ⊢
  split at h
  all_goals first | exact h | trivial | exact absurd rfl hi | (exfalso; omega) | skip
  · obtain ⟨A, c, k1, k2⟩ := h
    exact ⟨A, c, k1, fun h => by simp at h⟩
  · obtain ⟨B, k1, k2⟩ := h
    exact ⟨B, k1, fun h => by simp at h⟩
  · refine ⟨h.1, Or.inr ?_⟩
    obtain ⟨k1, k2⟩ := h.2.resolve_left (by omega)
    exact ⟨k1, k2.kept hg (own_ne hr k2 (by decide))⟩
theorem enPhi_2 (hi : j ≠ 12) (h : enPhi base bp bA bn bc gA gn gc n bs j u W γ) : enPhi base bp bA bn bc gA gn gc n bs j u W' (fun i => if i = 0 then 2 else γ i) := by
  unfold enPhi at h ⊢
  split at h
  all_goals first | exact h | trivial | exact absurd rfl hi | skip
  · obtain ⟨A, c, k1, k2⟩ := h
    exact ⟨A, c, k1, fun h => by simp at h⟩
  · obtain ⟨B, k1, k2⟩ := h
    exact ⟨B, k1, fun h => by simp at h⟩
  · obtain ⟨g, c, k1, k2, k3⟩ := h
    exact ⟨g, c, k1, by simp, Or.inl (by simp)⟩
  · obtain ⟨g, c, k1, k2, k3⟩ := h
    exact ⟨g, c, k1, by simp, Or.inl (by simp)⟩
  · exact ⟨h.1, Or.inl (by simp)⟩
theorem enR_low (h : enR base wB bn gn gc gA n bs W γ) : Below wB.heap.size wB W := h.1
theorem enR_next (h : enR base wB bn gn gc gA n bs W γ) (h2 : γ' 0 ≠ 2) (hb : Below W.heap.size W W') : enR base wB bn gn gc gA n bs W' γ' := ⟨below3 h.1 hb (Nat.le_refl _), fun e => absurd e h2⟩
end
def en13 (cb o : Nat) (n le : Int) : Nat → Value → World → (Nat → Nat) → Prop
  | 0, v, _, _ => v = .pointer (some ⟨cb, o, none⟩)
  | 1, v, _, _ => v = .pointer (some ⟨cb, o, none⟩)
  | 2, v, _, _ => v = .pointer (some ⟨cb, o, none⟩)
  | 3, v, _, _ => v = .int .i64 n
  | 4, v, _, _ => v = .int .u16 le
  | 5, v, _, _ => v = .int .i64 le
  | 6, v, _, _ => v = .int .i64 n
  | 7, v, _, _ => v = .int .i64 (le.tmod n)
  | 8, v, _, _ => v = .int .i64 (1 + le.tmod n)
  | 9, v, _, _ => v = .int .i64 (n - (1 + le.tmod n))
  | 10, v, _, _ => v = .pointer (some ⟨cb, o, none⟩)
  | 11, v, _, _ => v = .pointer (some ⟨cb, o, none⟩)
  | 12, _, _, γ => γ 0 = 2
  | _, _, _, _ => True
theorem en13_2 {cb o : Nat} {n le : Int} {j : Nat} {u : Value} {W W' : World} {γ γ' : Nat → Nat} (hj : j ≠ 12) (h : en13 cb o n le j u W γ) : en13 cb o n le j u W' γ' := by
  unfold en13 at h ⊢
  split at h <;> first | exact h | exact absurd rfl hj | trivial
theorem RowW.rd {α : Type} {w : World} {b size : Nat} {T : TypeId} {f : α → List Value} {A : Option Addr} {l : List α} {n : Nat} (hf : ∀ x, (f x).length = size) (hl : l.length = n) (h : RowW w b T f A l) : Rd w w.heap.size size f A n l := by
  refine ⟨hl, fun hn => ?_⟩
  have hx0 : l[0]? = some (l[0]'(by omega)) := List.getElem?_eq_getElem (by omega)
  obtain ⟨hA, hb, _, _⟩ := h.at_ hf hx0
  refine ⟨b, 0, hA, hb, fun i x hx j u hu => ?_⟩
  rw [Nat.zero_add]
  exact (h.at_ hf hx).2.2.2 j u hu
theorem set_last {α : Type} (l : List α) (a b : α) : (l ++ [a]).set l.length b = l ++ [b] := by simp
set_option maxRecDepth 100000 in
set_option maxHeartbeats 4000000 in
theorem enough_any (A1 A2 A3 : Option Addr) (n1 c1 n2 c2 n3 c3 : Nat) (l1 l2 l3 : List Int) (le : Int) (w : World) (h1 : Rd w w.heap.size 1 encU A1 n1 l1) (h2 : Rd w w.heap.size 1 encU A2 n2 l2) (h3 : Rd w w.heap.size 1 encU A3 n3 l3) (u1 : U8s l1) (u2 : U8s l2) (u3 : U8s l3) (z1 : n1 ≤ 9223372036854775807) (z2 : n2 ≤ 9223372036854775807) (z3 : n3 ≤ 9223372036854775807) (hle : 0 ≤ le ∧ le ≤ 65535) :
    Calls Try.prog 6 #[.slice A1 n1 c1, .slice A2 n2 c2, .slice A3 n3 c3, .int .u16 le] w fun e w' => e = .returned (.bool true) ∧ Below w.heap.size w w' := by
  have H1 := Lib.hid h1
  have H2 := Lib.hid h2
  have H3 := Lib.hid h3
  have KM := Lib.hid (fun W h => Made_any A1 n1 c1 l1 W h u1 z1)
  have KL := Lib.hid (fun W h => Loaded_any A2 n2 c2 l2 W h u2 (by omega))
  have KF0 := Lib.hid (fun (bA gA : Option Addr) (bn bc gn gc : Nat) (gs : List Gen) W hg h hgn ok => Failed_any bA gA A3 bn bc gn gc n3 c3 gs l3 W hg h u3 hgn ok (by omega))
  have KA := Lib.hid awake_any
  have HLE := Lib.hid hle
  obtain ⟨i0, hi0, hi1, hi2, hi3⟩ := info_parts batInfo
  have hi := Lib.hid (And.intro hi0 (And.intro hi1 (And.intro hi2 hi3)))
  clear h1 h2 h3 u1 u2 u3 z1 z2 z3 hle hi0 hi1 hi2 hi3
  go_enter Try.func6, Try.ntmps6
  go_wp2_with fail
  refine (KM.out _ H1.out).mono ?_
  rintro e w0 ⟨bA, bc, gA, gc, bs, gs, rfl, hB0, hrb, hrg, hb4, hg3, hbs, hgs⟩
  obtain ⟨bn, hbn⟩ : ∃ z, z = bs.length := ⟨_, rfl⟩
  obtain ⟨gn, hgn⟩ : ∃ z, z = gs.length := ⟨_, rfl⟩
  rw [← hbn] at hrb ⊢
  rw [← hgn] at hrg ⊢
  have KF := Lib.hid (fun W hg h => KF0.out bA gA bn bc gn gc gs W hg h (by omega) (fun g hg => (hgs g hg).1))
  have HRB := Lib.hid hrb
  have HRG := Lib.hid hrg
  have HMD := Lib.hid (And.intro hb4 (And.intro hg3 (And.intro hbs hgs)))
  have HBN := Lib.hid hbn
  have HGN := Lib.hid hgn
  have HL0 := Lib.hid hB0
  clear hrb hrg hb4 hg3 hbs hgs hbn hgn hB0 KF0 KM
  go_wp2
  obtain ⟨bp, hbp⟩ : ∃ z, z = w0.heap.size := ⟨_, rfl⟩
  obtain ⟨w1, hw1⟩ : ∃ z, z = w0.alloc (.cells #[.slice bA bn bc, .slice gA gn gc] 26) := ⟨_, rfl⟩
  have hi1 : Below w0.heap.size w0 w1 := by rw [hw1]; exact (Below.refl _ _).alloc (Nat.le_refl _) _
  have HBP : Hid (Blk w1 bp 26 #[.slice bA bn bc, .slice gA gn gc]) := Lib.hid (by rw [hw1, hbp]; exact heap_alloc_new w0 _)
  rw [← hw1, ← hbp]
  have HL1 := Lib.hid (below3 HL0.out hi1 (Nat.le_refl _))
  have HB := Lib.hid (row_rd Bat.enc_len HBN.out.symm (row_next HRB.out hi1))
  have HG := Lib.hid (row_rd Gen.enc_len HGN.out.symm (row_next HRG.out hi1))
  have H2 := Lib.hid (H2.out.next HL1.out)
  have H3 := Lib.hid (H3.out.next HL1.out)
  clear hw1 hbp hi1 HRB HRG HL0 H1
  refine wp_region_free10 6 (by kernel_rfl) [some 19, some 20, some 21, some 22, some 23, some 10, some 11] [[], [0], [], [], [2, 3, 1], [1, 4, 0, 1], [4, 5, 0, 1, 2, 3, 4, 5]] [(1, .slice A2 n2 c2), (2, .slice A3 n3 c3), (9, .pointer (some ⟨bp, 0, none⟩))] (fun W _ => Below w1.heap.size w1 W) (r2Phi w1.heap.size bp (.slice A2 n2 c2) (.slice A3 n3 c3) (.agg #[.slice bA bn bc, .slice gA gn gc]) gn gs) (fun _ _ _ => True) (by kernel_rfl) (by kernel_rfl) rfl (by kernel_rfl) ?_ ?_ ⟨fun _ => 0, (Below.refl _ _).drew, fun i _ => trivial⟩ ?_ ?_
  · intro z hz
    simp only [List.mem_cons, List.mem_nil_iff, or_false] at hz
    rcases hz with rfl | rfl | rfl
    all_goals exact ⟨by kernel_rfl, rfl⟩
  · intro i v W γ hi h
    rcases i with _ | _ | _ | _ | _ | _ | _ | i
    all_goals first | exact h | (simp at hi)
  · refine ⟨?_, ?_, ?_, ?_, ?_, ?_, ?_, trivial⟩
    all_goals
      intro a W γ ev hcc hff hfx hR hψ hpre
      simp only [List.mem_cons, List.mem_nil_iff, or_false, forall_eq, forall_eq_or_imp] at hfx
      obtain ⟨f0, f1, f2⟩ := hfx
      have HR := Lib.hid hR
      clear hR
      refine ⟨fun _ K hK => ?_, trivial⟩

    · clear hpre hψ
      go_simp
      exact hK _ _ γ HR.out (fun _ _ _ _ h => h) (fun _ _ _ h => h) rfl
    · have q0 : ev (.tmp 19) = _ := hpre 0 (by decide)
      have C := Lib.hid (KL.out W (H2.out.next (HR.out : Below w1.heap.size w1 W)))
      have HRW : Hid (Below w1.heap.size w1 W) := HR
      clear hpre
      go_simp
      refine C.out.mono ?_
      rintro e w5 ⟨A, c, L, rfl, hB5, hrow, hL1, hL2⟩
      exact hK _ w5 γ (below3 HRW.out hB5 (Nat.le_refl _)) (fun j u _ _ h => r2Phi_next hB5 h) (fun _ _ _ h => h) ⟨A, c, L, rfl, row_low hrow HRW.out.size, hL1, hL2⟩
    · have c0 : W.cell? ⟨bp, 0, none⟩ = some (.slice bA bn bc) := ((HR.out : Below w1.heap.size w1 W).cell (p := ⟨bp, 0, none⟩) HBP.out.lt).trans (HBP.out.cell 0)
      have c1 : W.cell? ⟨bp, 1, none⟩ = some (.slice gA gn gc) := ((HR.out : Below w1.heap.size w1 W).cell (p := ⟨bp, 1, none⟩) HBP.out.lt).trans (HBP.out.cell 1)
      have hzz : bp < W.heap.size := Nat.lt_of_lt_of_le HBP.out.lt (HR.out : Below w1.heap.size w1 W).size
      clear hpre hψ
      go_simp
      exact hK _ _ γ HR.out (fun _ _ _ _ h => h) (fun _ _ _ h => h) rfl
    · clear hpre hψ
      go_simp
      exact hK _ _ γ HR.out (fun _ _ _ _ h => h) (fun _ _ _ h => h) rfl
    · have q0 : ev (.tmp 21) = _ := hpre 2 (by decide)
      have q1 : ev (.tmp 22) = _ := hpre 3 (by decide)
      have C := Lib.hid (KF.out W (HG.out.next (HR.out : Below w1.heap.size w1 W)) (H3.out.next (HR.out : Below w1.heap.size w1 W)))
      have HRW : Hid (Below w1.heap.size w1 W) := HR
      clear hpre
      go_simp
      refine C.out.mono ?_
      rintro e w5 ⟨A, c, fs, rfl, hB5, hrow, hfs⟩
      exact hK _ w5 γ (below3 HRW.out hB5 (Nat.le_refl _)) (fun j u _ _ h => r2Phi_next hB5 h) (fun _ _ _ h => h) ⟨A, c, fs, rfl, row_low hrow HRW.out.size, hfs⟩
    · obtain ⟨A, c, L, q0, hrow, hL1, hL2⟩ := hpre 1 (by decide)
      replace q0 : ev (.tmp 20) = _ := q0
      clear hpre
      go_simp
      exact hK _ W γ HR.out (fun _ _ _ _ h => h) (fun _ _ _ h => h) ⟨A, c, L, rfl, hrow, hL1, hL2⟩
    · obtain ⟨A, c, fs, q0, hrow, hfs⟩ := hpre 4 (by decide)
      replace q0 : ev (.tmp 23) = _ := q0
      clear hpre
      go_simp
      exact hK _ W γ HR.out (fun _ _ _ _ h => h) (fun _ _ _ h => h) ⟨A, c, fs, rfl, hrow, hfs⟩
  · intro vs w' γ hvl hR hφ
    have q1 := hφ 5 (by decide)
    have q2 := hφ 6 (by decide)
    have HR := Lib.hid hR
    clear hφ hR
    match vs, hvl with
    | [y0, y1, y2, y3, y4, y5, y6], _ =>
    simp only [List.getD_cons_zero, List.getD_cons_succ] at q1 q2
    obtain ⟨lA, lc, L, e1, hrl, hL1, hL2⟩ := q1
    obtain ⟨fA, fc, fs, e2, hrf, hfs⟩ := q2
    subst e1
    subst e2
    have HLR : Hid (Below w1.heap.size w1 w') := HR
    have OKA := Lib.hid (law_args HMD.out.1 HMD.out.2.1 HMD.out.2.2.1 HMD.out.2.2.2 hL1 hL2)
    have OKF := Lib.hid hfs
    have HIN : Hid (ArgsIn w' w'.heap.size bA bn bs gA gn gs lA L.length L) := Lib.hid ⟨HB.out.next HLR.out, HG.out.next HLR.out, row_rd Spn.enc_len rfl hrl⟩
    have HFR : Hid (Rd w' w'.heap.size 1 encI fA gn fs) := Lib.hid (row_rd (fun _ => rfl) (by rw [OKF.out.1, HGN.out]) hrf)
    have HBP2 := Lib.hid (HBP.out.below HLR.out HBP.out.lt)
    have HL2 := Lib.hid (below3 HL1.out HLR.out (Nat.le_refl _))
    obtain ⟨w2, hw2⟩ : ∃ z, z = w' := ⟨_, rfl⟩
    rw [← hw2] at HIN HFR HBP2 HL2 ⊢
    have hlb := lackOf_bd OKA.out (Fl.of_ok OKF.out)
    have KK : Hid (∀ (W : World), ArgsIn W W.heap.size bA bn bs gA gn gs lA L.length L → Rd W W.heap.size 1 encI fA gn fs → Calls Try.prog 23 #[.agg #[.slice bA bn bc, .slice gA gn gc], .slice lA L.length lc, .slice fA gn fc] W fun e w' => e = .returned (.tuple #[.int .i64 (lackOf bs gs L fs), .int .i64 0]) ∧ Below W.heap.size W w') := Lib.hid (fun W h1 h2 => Lack_any bA gA lA fA bn bc gn gc L.length lc gn fc bs gs L fs W h1 h2 OKA.out OKF.out)
    have ke := (enough_is (d := 0) OKA.out OKF.out (Int.le_refl 0) hlb.1).1 rfl
    rw [Int.sub_zero] at ke
    have KE0 := Lib.hid ke
    clear ke
    have KE1 := Lib.hid (fun (d : Int) (h1 : 1 ≤ d) (h2 : d ≤ lackOf bs gs L fs) => (enough_is OKA.out OKF.out (by omega) h2).2 h1)
    obtain ⟨n, hn⟩ : ∃ z, z = lackOf bs gs L fs := ⟨_, rfl⟩
    rw [← hn] at KK KE0 KE1 hlb
    have HNB := Lib.hid hlb
    have hn0 : decide (n < 0) = false := decide_eq_false (by omega)
    clear hrl hrf hL1 hL2 hfs hn hlb HR HLR HB HG H2 H3 KL KF HBP HL1 hw2 hvl
    have c0 : w2.cell? ⟨bp, 0, none⟩ = some (.slice bA bn bc) := HBP2.out.cell 0
    have c1 : w2.cell? ⟨bp, 1, none⟩ = some (.slice gA gn gc) := HBP2.out.cell 1
    have z1 := HBP2.out.lt
    simp [putAll]
    go_wp2_with fail
    refine (KK.out _ HIN.out HFR.out).mono ?_
    rintro e w3 ⟨rfl, hB3⟩
    have HIN3 := Lib.hid (HIN.out.next hB3)
    have HFR3 := Lib.hid (HFR.out.next hB3)
    have HBP3 := Lib.hid (HBP2.out.below hB3 HBP2.out.lt)
    have HL3 := Lib.hid (below3 HL2.out hB3 (Nat.le_refl _))
    have HL3s : Hid (w.heap.size ≤ w3.heap.size) := Lib.hid HL3.out.size
    have HLw3 := Lib.hid HL3.out
    have HG3 := Lib.hid HIN3.out.gen
    have HLD3 := Lib.hid HIN3.out.load
    have HFa3 := Lib.hid HFR3.out
    clear c0 c1 z1 hB3 HIN HFR HBP2 HL2 KK
    go_wp2
    refine wp_region_free10 12 (by kernel_rfl) [some 37, some 38, some 39, some 40, some 41, some 42, some 43, some 44, some 45, some 46, some 47, some 14, none] [[], [0], [1], [], [], [3, 4], [5], [2, 6, 2], [], [8], [7, 9], [], [11, 10, 7, 0, 1, 2, 3, 4, 5, 6, 7, 8, 9, 10, 11]] [(9, .pointer (some ⟨bp, 0, none⟩)), (12, .int .i64 n)] (enR w3.heap.size w3 bn gn gc gA n bs) (enPhi w3.heap.size bp bA bn bc gA gn gc n bs) (fun i W γ => phPsi 7 i W γ) (by kernel_rfl) (by kernel_rfl) rfl (by kernel_rfl) ?_ ?_ ⟨fun _ => 0, ⟨(Below.refl _ _).drew, fun h => by cases h⟩, fun i _ => phPsi_0⟩ ?_ ?_
    · intro z hz
      simp only [List.mem_cons, List.mem_nil_iff, or_false] at hz
      rcases hz with rfl | rfl
      all_goals exact ⟨by kernel_rfl, rfl⟩
    · intro i v W γ hi h
      rcases i with _ | _ | _ | _ | _ | _ | _ | _ | _ | _ | _ | _ | _ | i
      all_goals first | exact h | (simp at hi)
    · refine ⟨?_, ?_, ?_, ?_, ?_, ?_, ?_, ?_, ?_, ?_, ?_, ?_, ?_, trivial⟩
      all_goals
        intro a W γ ev hcc hff hfx hR hψ hpre
        simp only [List.mem_cons, List.mem_nil_iff, or_false, forall_eq, forall_eq_or_imp] at hfx
        obtain ⟨f0, f1⟩ := hfx
        have HR := Lib.hid hR
        clear hR
        refine ⟨fun _ K hK => ?_, trivial⟩

      · clear hpre hψ
        go_simp
        exact hK _ _ γ HR.out (fun _ _ _ _ h => h) (fun _ _ _ h => h) rfl
      · have q0 : ev (.tmp 37) = _ := hpre 0 (by decide)
        have hzz : bp < W.heap.size := Nat.lt_of_lt_of_le HBP3.out.lt (enR_low HR.out).size
        have c0 : W.cell? ⟨bp, 0, none⟩ = some (.slice bA bn bc) := ((enR_low HR.out).cell (p := ⟨bp, 0, none⟩) HBP3.out.lt).trans (HBP3.out.cell 0)
        clear hpre hψ
        go_simp
        exact hK _ _ γ HR.out (fun _ _ _ _ h => h) (fun _ _ _ h => h) rfl
      · have q0 : ev (.tmp 38) = _ := hpre 1 (by decide)
        have C := Lib.hid (clone_bats bA bn bc bs W (HIN3.out.bat.next (enR_low HR.out)) (by have := HMD.out.1; have := HBN.out; omega))
        clear hpre
        go_simp
        refine C.out.mono ?_
        rintro e w5 ⟨A, c, rfl, hrow, hB5, _⟩
        exact hK _ w5 γ (enR_next HR.out (hψ.2 (by decide)) hB5) (fun j u _ _ h => enPhi_next hB5 rfl (fun _ => rfl) h) (fun _ _ _ h => h) ⟨A, c, rfl, fun _ => row_low hrow (enR_low HR.out).size⟩
      · clear hpre hψ
        go_simp
        exact hK _ _ γ HR.out (fun _ _ _ _ h => h) (fun _ _ _ h => h) rfl
      · clear hpre hψ
        go_simp
        exact hK _ _ γ HR.out (fun _ _ _ _ h => h) (fun _ _ _ h => h) rfl
      · have q0 : ev (.tmp 40) = _ := hpre 3 (by decide)
        have q1 : ev (.tmp 41) = _ := hpre 4 (by decide)
        clear hpre hψ
        go_simp
        exact hK _ _ γ HR.out (fun _ _ _ _ h => h) (fun _ _ _ h => h) rfl
      · have q0 : ev (.tmp 42) = _ := hpre 5 (by decide)
        clear hpre
        go_simp
        have hB5 : Below W.heap.size W (W.alloc (.cells #[.int .i64 n, .int .i64 n, .int .i64 1000000, .int .i64 0] 34)) := (Below.refl _ _).alloc (Nat.le_refl _) _
        exact hK _ _ γ (enR_next HR.out (hψ.2 (by decide)) hB5) (fun j u _ _ h => enPhi_next hB5 rfl (fun _ => rfl) h) (fun _ _ _ h => h) ⟨W.heap.size, rfl, fun _ => heap_alloc_new W _⟩
      · have hγ : γ 0 = 0 := hψ.1 rfl
        obtain ⟨A, c, q0, hA⟩ := hpre 2 (by decide)
        obtain ⟨B, q1, hB⟩ := hpre 6 (by decide)
        have hrow := hA hγ
        have hB2 := hB hγ
        replace q0 : ev (.tmp 39) = _ := q0
        replace q1 : ev (.tmp 43) = _ := q1
        have hlow := enR_low HR.out
        obtain ⟨v', W', hr, h2, h3, _, _⟩ := run_append_own_at (P := Try.prog) W w3.heap.size 23 23 34 i0 (.agg #[.int .i64 0, .int .i64 0, .int .i64 0, .int .i64 0]) 4 32 Try.underlying23 hi.out.1 hi.out.2.1 hi.out.2.2.1 hi.out.2.2.2 rfl (by decide) (.slice A bn c) bn (bs.flatMap Bat.enc) hrow ⟨B, 0, none⟩ 1 1 [.int .i64 n, .int .i64 n, .int .i64 1000000, .int .i64 0] rfl (fun j u hj => by
          rw [add0, Blk.cell hB2]
          simpa using hj) (by intro u hu; simp only [List.mem_cons, List.mem_nil_iff, or_false] at hu; rcases hu with rfl | rfl | rfl | rfl <;> rfl) (by have := HMD.out.1; have := HBN.out; simp only [maxLen]; omega) (by have := HMD.out.1; have := HBN.out; omega) hlow.size
        unfold execOp
        simp only [resolve, invoke, builtin, Sem.run_bind, Sem.run_pure, Result.andThen_ok, List.map_toArray, List.map_cons, List.map_nil, q0, q1, hr]
        obtain ⟨g', c', e'⟩ := ownsRow_succ h2
        subst e'
        refine hK _ W' (fun i => if i = 0 then 1 else γ i) ⟨hlow.grown h3 hlow.size (fun r e => (World.ownsRow.lt hrow r e).1), fun e => by simp at e⟩ (fun j u hj hne h => enPhi_1 hγ hne h3 hrow h) (fun _ j h1 h2 => ⟨fun e => absurd e h1, fun _ => by simp⟩) ⟨g', c', rfl, by simp, Or.inr h2⟩
      · clear hpre hψ
        go_simp
        exact hK _ _ γ HR.out (fun _ _ _ _ h => h) (fun _ _ _ h => h) rfl
      · have q0 : ev (.tmp 45) = _ := hpre 8 (by decide)
        have hzz : bp < W.heap.size := Nat.lt_of_lt_of_le HBP3.out.lt (enR_low HR.out).size
        have c0 : W.cell? ⟨bp, 1, none⟩ = some (.slice gA gn gc) := ((enR_low HR.out).cell (p := ⟨bp, 1, none⟩) HBP3.out.lt).trans (HBP3.out.cell 1)
        clear hpre hψ
        go_simp
        exact hK _ _ γ HR.out (fun _ _ _ _ h => h) (fun _ _ _ h => h) rfl
      · have q0 : ev (.tmp 46) = _ := hpre 9 (by decide)
        obtain ⟨g', c', q1, hne, hrow⟩ := hpre 7 (by decide)
        replace q1 : ev (.tmp 44) = _ := q1
        clear hpre
        go_simp
        exact hK _ _ γ HR.out (fun _ _ _ _ h => h) (fun _ _ _ h => h) ⟨g', c', rfl, hne, hrow⟩
      · clear hpre
        go_simp
        have hB5 : Below W.heap.size W (W.alloc (.cells #[.slice none 0 0, .slice none 0 0] 26)) := (Below.refl _ _).alloc (Nat.le_refl _) _
        exact hK _ _ (fun i => if i = 1 then W.heap.size else γ i) (enR_next HR.out (by simpa using (hψ.2 (by decide))) hB5) (fun j u _ hj h => enPhi_next hB5 (by simp) (fun e => absurd e hj) h) (fun _ j h1 h2 => ⟨fun e => by simpa using h2.1 e, fun e => by simpa using h2.2 e⟩) ⟨rfl, Or.inr ⟨(enR_low HR.out).size, heap_alloc_new W _⟩⟩
      · have h2 : γ 0 ≠ 2 := hψ.2 (by decide)
        obtain ⟨g', c', q0, hne, hrow⟩ := hpre 10 (by decide)
        obtain ⟨q1, hx⟩ := hpre 11 (by decide)
        replace q0 : ev (.tmp 47) = _ := q0
        replace q1 : ev (.tmp 14) = _ := q1
        obtain ⟨x1, x2⟩ := hx.resolve_left h2
        have hrow := hrow.resolve_left h2
        have hlow := enR_low HR.out
        obtain ⟨xb, hxb⟩ : ∃ z, z = γ 1 := ⟨_, rfl⟩
        rw [← hxb] at q1 x1 x2
        have XB := Lib.hid x2
        have RW := Lib.hid hrow
        have LW := Lib.hid hlow
        have X1 := Lib.hid x1
        have HXB := Lib.hid hxb
        have hzz := x2.lt
        have d0 : W.cell? ⟨xb, 0, none⟩ = some (.slice none 0 0) := x2.cell 0
        have d1 : W.cell? ⟨xb, 1, none⟩ = some (.slice none 0 0) := x2.cell 1
        have fz : ∀ o, W.frozen? ⟨xb, o, none⟩ = false := fun o => x2.frozen o
        clear x1 x2 hrow hlow hpre hx hxb
        go_simp
        refine hK undef _ (fun i => if i = 0 then 2 else γ i) ⟨?_, fun _ => ⟨g', c', ?_, ?_, ?_⟩⟩ (fun j u h1 h2 h3 => enPhi_2 h2 h3) (fun h => absurd rfl h) rfl
        · exact (LW.out.setCell X1.out _).setCell X1.out _
        · show Blk _ (γ 1) _ _
          rw [← HXB.out]
          exact (XB.out.set_ 0 _).set_ 1 _
        · show w3.heap.size ≤ γ 1
          rw [← HXB.out]
          exact X1.out
        · exact (RW.out.kept (grown_set W xb 0 _) (Or.inr (own_ne RW.out XB.out (by decide)).symm)).kept (grown_set _ xb 1 _) (Or.inr (own_ne RW.out XB.out (by decide)).symm)
    · intro vs w' γ hvl hR hφ
      have q11 := hφ 11 (by decide)
      have q12 : γ 0 = 2 := hφ 12 (by decide)
      have HR := Lib.hid hR
      clear hφ hR
      match vs, hvl with
      | [y0, y1, y2, y3, y4, y5, y6, y7, y8, y9, y10, y11, y12], _ =>
      simp only [List.getD_cons_zero, List.getD_cons_succ] at q11
      obtain ⟨hR1, hR2⟩ := HR.out
      obtain ⟨cb, cc, hx, hxlow, hrow⟩ := hR2 q12
      replace q11 : y11 = _ := q11.1
      obtain ⟨xb, hxb⟩ : ∃ z, z = γ 1 := ⟨_, rfl⟩
      rw [← hxb] at q11 hx hxlow
      subst q11
      obtain ⟨w4, hw4⟩ : ∃ z, z = w' := ⟨_, rfl⟩
      rw [← hw4] at hR1 hx hrow ⊢
      obtain ⟨bk, hbk⟩ : ∃ z, z = bn + 1 := ⟨_, rfl⟩
      rw [← hbk] at hx hrow
      have hrow : w4.ownsRow w3.heap.size 34 4 (.slice (some ⟨cb, 0, none⟩) bk cc) bk ((bs ++ [(⟨n, n, 1000000, 0⟩ : Bat)]).flatMap Bat.enc) := by
        rw [List.flatMap_append]
        exact hrow
      have HBK := Lib.hid hbk
      have HLN : Hid ((bs ++ [(⟨n, n, 1000000, 0⟩ : Bat)]).length = bk) := Lib.hid (by rw [List.length_append, hbk, HBN.out]; rfl)
      have OK2 : Hid (∀ d, 0 ≤ d → d ≤ n → ArgsOk (bs ++ [(⟨n - d, n, 1000000, 0⟩ : Bat)]) gs L) := Lib.hid (fun d d0 d1 => by
        have ok := OKA.out
        refine ⟨?_, ok.ng, ok.nl, fun b hb => ?_, ok.gen, ok.spn, ok.len⟩
        · have := HMD.out.1
          rw [List.length_append]
          simp only [List.length_cons, List.length_nil]
          omega
        · rcases List.mem_append.1 hb with h | h
          · exact ok.bat b h
          · rw [List.mem_singleton.1 h]
            have := HNB.out
            exact ⟨by dsimp only; omega, by dsimp only; omega, by dsimp only; omega, by dsimp only; omega, by dsimp only; omega, by dsimp only; omega, by dsimp only; omega⟩)
      have HRO := Lib.hid hrow
      have HL34 := Lib.hid hR1
      have HCB3 : Hid (w3.heap.size ≤ cb) := Lib.hid (World.ownsRow.lt hrow cb rfl).1
      have HXB := Lib.hid hx
      have HG4 := Lib.hid (HIN3.out.gen.next hR1)
      have HLD4 := Lib.hid (HIN3.out.load.next hR1)
      have HFR4 := Lib.hid (HFR3.out.next hR1)
      have HL4 := Lib.hid (below3 HL3.out hR1 (Nat.le_refl _))
      have HIN4 : Hid (ArgsIn w4 w4.heap.size (some ⟨cb, 0, none⟩) bk (bs ++ [(⟨n, n, 1000000, 0⟩ : Bat)]) gA gn gs lA L.length L) := Lib.hid ⟨row_rd Bat.enc_len HLN.out hrow, HG4.out, HLD4.out⟩
      have KR0 := Lib.hid (fun W h1 h2 => run_b (some ⟨cb, 0, none⟩) gA lA fA bk cc gn gc L.length lc fc (bs ++ [(⟨n, n, 1000000, 0⟩ : Bat)]) gs L fs HLN.out.symm HGN.out W h1 h2 (by have := OK2.out 0 (by omega) HNB.out.1; rwa [Int.sub_zero] at this) OKF.out)
      have KR1 := Lib.hid (fun d (d0 : 0 ≤ d) (d1 : d ≤ n) W h1 h2 => run_b (some ⟨cb, 0, none⟩) gA lA fA bk cc gn gc L.length lc fc (bs ++ [(⟨n - d, n, 1000000, 0⟩ : Bat)]) gs L fs (by rw [HBK.out, List.length_append, HBN.out]; rfl) HGN.out W h1 h2 (OK2.out d d0 d1) OKF.out)
      obtain ⟨kd, r, kr, krl⟩ := KE0.out
      have HEN0 : Hid ((energies (runOf (bs ++ [(⟨n, n, 1000000, 0⟩ : Bat)]) gs L fs))[bn]? = some 0) := Lib.hid (by rw [kr, HBN.out, ← krl]; simp)
      obtain ⟨sv, hsv⟩ : ∃ z, z = (runOf (bs ++ [(⟨n, n, 1000000, 0⟩ : Bat)]) gs L fs).served := ⟨_, rfl⟩
      rw [kd, ← hsv] at KR0
      clear hR1 hR2 hx hxlow hrow hbk hxb hw4 hsv kd kr krl HR HIN3 HFR3 HBP3 HL3 KE0 hvl q12
      have c0 : w4.cell? ⟨xb, 0, none⟩ = some (.slice (some ⟨cb, 0, none⟩) bk cc) := HXB.out.cell 0
      have c1 : w4.cell? ⟨xb, 1, none⟩ = some (.slice gA gn gc) := HXB.out.cell 1
      have z1 := HXB.out.lt
      simp [putAll]
      go_wp2_with fail
      refine (KR0.out _ HIN4.out HFR4.out).mono ?_
      rintro e w5a ⟨g1, g2, rfl, hB5, hres⟩
      have HEC : Hid (Blk w5a g1 3 (intsA (energies (runOf (bs ++ [(⟨n, n, 1000000, 0⟩ : Bat)]) gs L fs)))) := Lib.hid hres.e
      have HXB5 := Lib.hid (HXB.out.below hB5 HXB.out.lt)
      have HRO5 := Lib.hid (row_next HRO.out hB5)
      have HG5 := Lib.hid (HG4.out.next hB5)
      have HLD5 := Lib.hid (HLD4.out.next hB5)
      have HFR5 := Lib.hid (HFR4.out.next hB5)
      have HL5 := Lib.hid (below3 HL4.out hB5 (Nat.le_refl _))
      have HL35a := Lib.hid (below3 HL34.out hB5 (Nat.le_refl _))
      clear c0 c1 z1 hB5 hres HXB HRO HG4 HLD4 HFR4 HL4 HIN4 KR0
      have hbk1 : IntKind.i64.wrap ((bk : Int) - 1) = (bn : Int) := by rw [HBK.out]; rw [show (((bn + 1 : Nat) : Int) - 1) = (bn : Int) by omega]; exact IntWalk.i64_in _ (by have := HMD.out.1; have := HBN.out; omega)
      have hbk2 : (bn : Int) < (bk : Int) := by have := HBK.out; omega
      have hbk0 : (0 : Int) ≤ (bn : Int) := by omega
      have hbk3 : ¬ (bn : Int) < 0 := by omega
      have d0 : w5a.cell? ⟨xb, 0, none⟩ = some (.slice (some ⟨cb, 0, none⟩) bk cc) := HXB5.out.cell 0
      have d1 : w5a.cell? ⟨xb, 1, none⟩ = some (.slice gA gn gc) := HXB5.out.cell 1
      have z1 := HXB5.out.lt
      have e0 : w5a.cell? ⟨g1, bn, none⟩ = some (.int .i64 0) := HEC.out.intAt HEN0.out
      have z2 := HEC.out.lt
      by_cases hz : n = 0
      · have hz1 : (n == 0) = true := by rw [hz]; rfl
        have hz2 : decide (n = 0) = true := decide_eq_true hz
        clear hz
        go_wp2_with fail
        have HLa := Lib.hid (below3 HL5.out ((Below.refl _ _).alloc (Nat.le_refl _) _) (Nat.le_refl _) : Below w.heap.size w (w5a.alloc (.cells #[.int .i64 (-1), .slice (some ⟨g1, 0, none⟩) bk bk, .slice (some ⟨g2, 0, none⟩) gn gn, .int .i64 sv] 40)))
        refine (KA.out _).mono ?_
        rintro e wz ⟨rfl, hBz⟩
        have HLz := Lib.hid (below3 HLa.out hBz (Nat.le_refl _))
        clear hBz
        go_wp2_with fail
        go_ret
        exact ⟨rfl, HLz.out⟩
      · have hz1 : (n == 0) = false := beq_eq_false_iff_ne.2 hz
        have hz2 : decide (n = 0) = false := decide_eq_false hz
        have HZ := Lib.hid hz
        clear hz
        go_wp2
        obtain ⟨rb, hrb⟩ : ∃ z, z = w5a.heap.size := ⟨_, rfl⟩
        obtain ⟨w5, hw5⟩ : ∃ z, z = w5a.alloc (.cells #[.int .i64 (-1), .slice (some ⟨g1, 0, none⟩) bk bk, .slice (some ⟨g2, 0, none⟩) gn gn, .int .i64 sv] 40) := ⟨_, rfl⟩
        have hi5 : Below w5a.heap.size w5a w5 := by rw [hw5]; exact (Below.refl _ _).alloc (Nat.le_refl _) _
        have hk5 : Blk w5 rb 40 #[.int .i64 (-1), .slice (some ⟨g1, 0, none⟩) bk bk, .slice (some ⟨g2, 0, none⟩) gn gn, .int .i64 sv] := by rw [hw5, hrb]; exact heap_alloc_new w5a _
        rw [← hw5, ← hrb]
        have HRB := Lib.hid hk5
        have HRLow : Hid (w.heap.size ≤ rb) := Lib.hid (by rw [hrb]; exact HL5.out.size)
        have HXB6 := Lib.hid (HXB5.out.below hi5 HXB5.out.lt)
        have hro := row_next HRO5.out hi5
        have hblk := World.ownsRow.lt hro cb rfl
        obtain ⟨A', c', b', eA, hrw, hob⟩ := RowW.of_own (by rw [HLN.out]; exact hro)
        rw [HLN.out] at eA
        cases eA
        have eb : cb = b' := by have := (hob (by rw [HLN.out, HBK.out]; omega)).2; simpa [Value.ownBlock] using this
        subst eb
        have HRWW := Lib.hid hrw
        have hlast : (bs ++ [(⟨n, n, 1000000, 0⟩ : Bat)])[bn]? = some ⟨n, n, 1000000, 0⟩ := by rw [HBN.out]; simp
        obtain ⟨_, _, hfz, hcl⟩ := hrw.at_ Bat.enc_len hlast
        have HCB := Lib.hid hblk.2
        have HC0 : Hid (w5.cell? ⟨cb, bn * 4, none⟩ = some (.int .i64 n)) := Lib.hid (hcl 0 _ rfl)
        have HF0 : Hid (w5.frozen? ⟨cb, bn * 4, none⟩ = false) := Lib.hid (hfz _)
        have HNE : Hid (xb ≠ cb ∧ rb ≠ cb) := Lib.hid ⟨fun e => own_ne hro HXB6.out (by decide) (by rw [e]; rfl), fun e => own_ne hro hk5 (by decide) (by rw [e]; rfl)⟩
        have HG6 := Lib.hid (HG5.out.next hi5)
        have HLD6 := Lib.hid (HLD5.out.next hi5)
        have HFR6 := Lib.hid (HFR5.out.next hi5)
        have HL6 := Lib.hid (below3 HL5.out hi5 (Nat.le_refl _))
        have HL35 := Lib.hid (below3 HL35a.out hi5 (Nat.le_refl _))
        have hnb := HNB.out
        have hlb := HLE.out
        have htm := tmod_bd (n := n) hlb.1 (by have := HZ.out; omega)
        have HD := Lib.hid (show 1 ≤ 1 + le.tmod n ∧ 1 + le.tmod n ≤ n by omega)
        have v1 : IntKind.i64.wrap le = le := IntWalk.i64_in _ (by omega)
        have v2 : IntKind.i64.wrap (le.tmod n) = le.tmod n := IntWalk.i64_in _ (by omega)
        have v3 : IntKind.i64.wrap (1 + le.tmod n) = 1 + le.tmod n := IntWalk.i64_in _ (by omega)
        have v4 : IntKind.i64.wrap (n - (1 + le.tmod n)) = n - (1 + le.tmod n) := IntWalk.i64_in _ (by omega)
        have v5 : ¬ n = 0 := HZ.out
        have v6 : ¬ n = -1 := by omega
        clear hw5 hrb hi5 hk5 hro hblk hrw hob hlast hfz hcl HXB5 HRO5 HG5 HLD5 HFR5 HL5 HEC HEN0 d0 d1 z1 e0 z2 hbk0 hbk1 hbk2 hbk3 hnb hlb htm hz1 hz2
        refine wp_region_free10 12 (by kernel_rfl) [some 83, some 84, some 85, some 86, some 87, some 88, some 89, some 90, some 91, some 92, some 93, some 94, none] [[], [0], [1], [2], [], [4], [], [5, 6], [7], [3, 8], [0, 0, 1, 2, 3, 4, 5, 6, 7, 8, 9], [10, 0, 1, 2, 3, 4, 5, 6, 7, 8, 9], [11, 9, 0, 1, 2, 3, 4, 5, 6, 7, 8, 9]] [(16, .pointer (some ⟨cb, bn * 4, none⟩)), (12, .int .i64 n), (3, .int .u16 le)] (fun W γ => (γ 0 = 0 → Below w5.heap.size w5 W) ∧ (γ 0 = 2 → ∃ W0, Below w5.heap.size w5 W0 ∧ W = W0.setCell ⟨cb, bn * 4, none⟩ (.int .i64 (n - (1 + le.tmod n))))) (en13 cb (bn * 4) n le) (fun _ _ γ => γ 0 = 0) (by kernel_rfl) (by kernel_rfl) rfl (by kernel_rfl) ?_ ?_ ⟨fun _ => 0, ⟨fun _ => (Below.refl _ _).drew, fun e => (by cases e)⟩, fun i _ => rfl⟩ ?_ ?_
        · intro z hz
          simp only [List.mem_cons, List.mem_nil_iff, or_false] at hz
          rcases hz with rfl | rfl | rfl
          all_goals exact ⟨by kernel_rfl, rfl⟩
        · intro i v W γ hi h
          rcases i with _ | _ | _ | _ | _ | _ | _ | _ | _ | _ | _ | _ | _ | i
          all_goals first | exact h | (simp at hi)
        · refine ⟨?_, ?_, ?_, ?_, ?_, ?_, ?_, ?_, ?_, ?_, ?_, ?_, ?_, trivial⟩
          all_goals
            intro a W γ ev hcc hff hfx hR hψ hpre
            simp only [List.mem_cons, List.mem_nil_iff, or_false, forall_eq, forall_eq_or_imp] at hfx
            obtain ⟨f0, f1, f2⟩ := hfx
            have HR := Lib.hid hR
            clear hR
            refine ⟨fun _ K hK => ?_, trivial⟩

          · clear hpre hψ
            go_simp
            exact hK _ _ γ HR.out (fun _ _ _ _ h => h) (fun _ _ _ h => h) rfl
          · have q0 : ev (.tmp 83) = _ := hpre 0 (by decide)
            clear hpre hψ
            go_simp
            exact hK _ _ γ HR.out (fun _ _ _ _ h => h) (fun _ _ _ h => h) rfl
          · have q0 : ev (.tmp 84) = _ := hpre 1 (by decide)
            clear hpre hψ
            go_simp
            exact hK _ _ γ HR.out (fun _ _ _ _ h => h) (fun _ _ _ h => h) rfl
          · have q0 : ev (.tmp 85) = _ := hpre 2 (by decide)
            have hzz : cb < W.heap.size := Nat.lt_of_lt_of_le HCB.out (HR.out.1 hψ).size
            have c0 : W.cell? ⟨cb, bn * 4, none⟩ = some (.int .i64 n) := ((HR.out.1 hψ).cell (p := ⟨cb, bn * 4, none⟩) HCB.out).trans HC0.out
            clear hpre hψ
            go_simp
            exact hK _ _ γ HR.out (fun _ _ _ _ h => h) (fun _ _ _ h => h) rfl
          · clear hpre hψ
            go_simp
            exact hK _ _ γ HR.out (fun _ _ _ _ h => h) (fun _ _ _ h => h) rfl
          · have q0 : ev (.tmp 87) = _ := hpre 4 (by decide)
            clear hpre hψ
            go_simp
            exact hK _ _ γ HR.out (fun _ _ _ _ h => h) (fun _ _ _ h => h) rfl
          · clear hpre hψ
            go_simp
            exact hK _ _ γ HR.out (fun _ _ _ _ h => h) (fun _ _ _ h => h) rfl
          · have q0 : ev (.tmp 88) = _ := hpre 5 (by decide)
            have q1 : ev (.tmp 89) = _ := hpre 6 (by decide)
            clear hpre hψ
            go_simp
            exact hK _ _ γ HR.out (fun _ _ _ _ h => h) (fun _ _ _ h => h) rfl
          · have q0 : ev (.tmp 90) = _ := hpre 7 (by decide)
            clear hpre hψ
            go_simp
            exact hK _ _ γ HR.out (fun _ _ _ _ h => h) (fun _ _ _ h => h) rfl
          · have q0 : ev (.tmp 86) = _ := hpre 3 (by decide)
            have q1 : ev (.tmp 91) = _ := hpre 8 (by decide)
            clear hpre hψ
            go_simp
            exact hK _ _ γ HR.out (fun _ _ _ _ h => h) (fun _ _ _ h => h) rfl
          · have q0 : ev (.tmp 83) = _ := hpre 0 (by decide)
            clear hpre hψ
            go_simp
            exact hK _ _ γ HR.out (fun _ _ _ _ h => h) (fun _ _ _ h => h) rfl
          · have q0 : ev (.tmp 93) = _ := hpre 10 (by decide)
            clear hpre hψ
            go_simp
            exact hK _ _ γ HR.out (fun _ _ _ _ h => h) (fun _ _ _ h => h) rfl
          · have q0 : ev (.tmp 94) = _ := hpre 11 (by decide)
            have q1 : ev (.tmp 92) = _ := hpre 9 (by decide)
            have hzz : cb < W.heap.size := Nat.lt_of_lt_of_le HCB.out (HR.out.1 hψ).size
            have c0 : W.cell? ⟨cb, bn * 4, none⟩ = some (.int .i64 n) := ((HR.out.1 hψ).cell (p := ⟨cb, bn * 4, none⟩) HCB.out).trans HC0.out
            have fz : W.frozen? ⟨cb, bn * 4, none⟩ = false := ((HR.out.1 hψ).frozen (p := ⟨cb, bn * 4, none⟩) HCB.out).trans HF0.out
            have LW := Lib.hid (HR.out.1 hψ)
            clear hpre
            go_simp
            refine hK undef _ (fun _ => 2) ⟨fun e => (by cases e), fun _ => ⟨W, LW.out, rfl⟩⟩ (fun j u h1 h2 h3 => en13_2 h2 h3) (fun h => absurd rfl h) rfl
        · intro vs w' γ hvl hR hφ
          have q12 : γ 0 = 2 := hφ 12 (by decide)
          have HR := Lib.hid hR
          clear hφ hR
          match vs, hvl with
          | [y0, y1, y2, y3, y4, y5, y6, y7, y8, y9, y10, y11, y12], _ =>
          obtain ⟨W0, hB0, hW0⟩ := HR.out.2 q12
          have hrw0 : RowW W0 cb 34 Bat.enc (some ⟨cb, 0, none⟩) (bs ++ [(⟨n, n, 1000000, 0⟩ : Bat)]) := HRWW.out.kept fun _ cur hb => hb.below hB0 hb.lt
          have hlast : (bs ++ [(⟨n, n, 1000000, 0⟩ : Bat)])[bn]? = some ⟨n, n, 1000000, 0⟩ := by rw [HBN.out]; simp
          have hset := hrw0.set_ (x' := ⟨n - (1 + le.tmod n), n, 1000000, 0⟩) (j := 0) (u := .int .i64 (n - (1 + le.tmod n))) Bat.enc_len hlast (by decide) rfl
          rw [Nat.add_zero, ← hW0] at hset
          have hsl : (bs ++ [(⟨n, n, 1000000, 0⟩ : Bat)]).set bn ⟨n - (1 + le.tmod n), n, 1000000, 0⟩ = bs ++ [(⟨n - (1 + le.tmod n), n, 1000000, 0⟩ : Bat)] := by rw [HBN.out]; exact set_last _ _ _
          rw [hsl] at hset
          obtain ⟨w6, hw6⟩ : ∃ z, z = w' := ⟨_, rfl⟩
          rw [← hw6] at hW0 hset ⊢
          have hkp : ∀ (B : Nat) (W : World), B ≤ cb → Below B W W0 → Below B W w6 := fun B W h k => by rw [hW0]; exact k.setCell h _
          have HIN6 : Hid (ArgsIn w6 w6.heap.size (some ⟨cb, 0, none⟩) bk (bs ++ [(⟨n - (1 + le.tmod n), n, 1000000, 0⟩ : Bat)]) gA gn gs lA L.length L) := by
            have hsz : w6.heap.size = W0.heap.size := by rw [hW0]; simp [World.setCell]
            have hg : Rd W0 w3.heap.size 5 Gen.enc gA gn gs := HG3.out.below (below3 HL35.out hB0 (Nat.le_refl _))
            have hl : Rd W0 w3.heap.size 2 Spn.enc lA L.length L := HLD3.out.below (below3 HL35.out hB0 (Nat.le_refl _))
            have h36 : Below w3.heap.size W0 w6 := hkp _ _ HCB3.out (Below.refl _ _)
            have hs3 : w3.heap.size ≤ w6.heap.size := by have := (below3 HL35.out hB0 (Nat.le_refl _)).size; omega
            exact Lib.hid ⟨hset.rd Bat.enc_len (by rw [HBK.out, List.length_append, HBN.out]; rfl), (hg.below h36).more hs3, (hl.below h36).more hs3⟩
          have HFR6 : Hid (Rd w6 w6.heap.size 1 encI fA gn fs) := by
            have hf : Rd W0 w3.heap.size 1 encI fA gn fs := HFa3.out.below (below3 HL35.out hB0 (Nat.le_refl _))
            have h36 : Below w3.heap.size W0 w6 := hkp _ _ HCB3.out (Below.refl _ _)
            exact Lib.hid ((hf.below h36).more (by have := (below3 HL35.out hB0 (Nat.le_refl _)).size; have := h36.size; omega))
          have HXBz : Hid (Blk w6 xb 26 #[.slice (some ⟨cb, 0, none⟩) bk cc, .slice gA gn gc]) := Lib.hid (by rw [hW0]; exact (HXB6.out.below hB0 HXB6.out.lt).far HNE.out.1 _)
          have HRBz : Hid (Blk w6 rb 40 #[.int .i64 (-1), .slice (some ⟨g1, 0, none⟩) bk bk, .slice (some ⟨g2, 0, none⟩) gn gn, .int .i64 sv]) := Lib.hid (by rw [hW0]; exact (HRB.out.below hB0 HRB.out.lt).far HNE.out.2 _)
          have HLz6 : Hid (Below w.heap.size w w6) := Lib.hid (hkp _ _ (by have := HL3s.out; have := HCB3.out; omega) (below3 HL6.out hB0 (Nat.le_refl _)))
          have KR2 := Lib.hid (fun W h1 h2 => KR1.out (1 + le.tmod n) (by have := HD.out; omega) HD.out.2 W h1 h2)
          have hdk := KE1.out (1 + le.tmod n) HD.out.1 HD.out.2
          obtain ⟨D, hD⟩ : ∃ z, z = (runOf (bs ++ [(⟨n - (1 + le.tmod n), n, 1000000, 0⟩ : Bat)]) gs L fs).dark := ⟨_, rfl⟩
          obtain ⟨sv2, hsv2⟩ : ∃ z, z = (runOf (bs ++ [(⟨n - (1 + le.tmod n), n, 1000000, 0⟩ : Bat)]) gs L fs).served := ⟨_, rfl⟩
          rw [← hD, ← hsv2] at KR2
          rw [← hD] at hdk
          have hdd : decide (0 ≤ D) = true := decide_eq_true hdk
          clear hB0 hW0 hrw0 hlast hset hsl hw6 hkp hD hsv2 hdk HRWW HCB HC0 HF0 HNE HG6 HLD6 HL6 HL35 HRB HXB6 HR q12 v1 v2 v3 v4 v5 v6 hvl
          have c0 : w6.cell? ⟨xb, 0, none⟩ = some (.slice (some ⟨cb, 0, none⟩) bk cc) := HXBz.out.cell 0
          have c1 : w6.cell? ⟨xb, 1, none⟩ = some (.slice gA gn gc) := HXBz.out.cell 1
          have zx := HXBz.out.lt
          simp [putAll]
          go_wp2_with fail
          refine (KR2.out _ HIN6.out HFR6.out).mono ?_
          rintro e w7 ⟨g3, g4, rfl, hB7, _⟩
          have HRB7 := Lib.hid (HRBz.out.below hB7 HRBz.out.lt)
          have HLz7 := Lib.hid (below3 HLz6.out hB7 (Nat.le_refl _))
          have HRL : Hid (w.heap.size ≤ rb) := Lib.hid HRLow.out
          clear c0 c1 zx hB7 HXBz HRBz HLz6 HIN6 HFR6 KR2
          have d0 : w7.cell? ⟨rb, 0, none⟩ = some (.int .i64 (-1)) := HRB7.out.cell 0
          have d1 : w7.cell? ⟨rb, 1, none⟩ = some (.slice (some ⟨g1, 0, none⟩) bk bk) := HRB7.out.cell 1
          have d2 : w7.cell? ⟨rb, 2, none⟩ = some (.slice (some ⟨g2, 0, none⟩) gn gn) := HRB7.out.cell 2
          have d3 : w7.cell? ⟨rb, 3, none⟩ = some (.int .i64 sv) := HRB7.out.cell 3
          have fz : ∀ o, w7.frozen? ⟨rb, o, none⟩ = false := fun o => HRB7.out.frozen o
          have zr := HRB7.out.lt
          go_wp2_with fail
          refine (KA.out _).mono ?_
          rintro e wz ⟨rfl, hBz⟩
          have HLz : Hid (Below w.heap.size w wz) := Lib.hid (by
            refine below3 ?_ hBz (Nat.le_refl _)
            repeat' (first | exact HLz7.out | refine Below.setCell ?_ HRL.out _))
          clear hBz
          go_wp2_with fail
          go_ret
          exact ⟨rfl, HLz.out⟩
end Go.Proofs.Ytnpkcipeacogcaa
