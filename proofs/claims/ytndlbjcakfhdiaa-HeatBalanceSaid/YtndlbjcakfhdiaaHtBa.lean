/- law07: what HeatBalance needs. -/
import Derived.Test.YtndlbjcakfhdiaaHtMa
import Derived.Test.YtndlbjcakfhdiaaHtZ

set_option linter.unusedSimpArgs false
set_option linter.unusedVariables false
namespace Go.Proofs.Ytndlbjcakfhdiaa
open Go.RowKit

def bl2Phi (X0 : World) (n : Nat) (hv av bv : Value) : Nat → Value → World → (Nat → Nat) → Prop
  | 0, v, _, _ => v = hv
  | 1, v, _, _ => v = av
  | 2, v, W, _ => ∃ (A : Option Addr) (b c : Nat) (L : List Int), v = .slice A n c ∧ TmOk n L ∧ RowW W b 3 encI A L
  | 3, v, _, _ => v = hv
  | 4, v, _, _ => v = bv
  | 5, v, W, _ => ∃ (A : Option Addr) (b c : Nat) (out pump : Int) (L : List Int), v = .agg #[.slice A n c, .int .i64 out, .int .i64 pump] ∧ CsOk n out pump L ∧ RowW W b 3 encI A L
  | 6, v, W, γ => v = .pointer (some ⟨γ 30, 0, none⟩) ∧ X0.heap.size ≤ γ 30 ∧ (γ 20 = 0 → Blk W (γ 30) 35 #[.slice none 0 0, .int .i64 0, .int .i64 0])
  | 7, v, W, _ => ∃ (A : Option Addr) (b c : Nat) (L : List Int), v = .slice A n c ∧ TmOk n L ∧ RowW W b 3 encI A L
  | 8, _, W, γ => ∃ (A : Option Addr) (b c : Nat) (out pump : Int) (L : List Int), Blk W (γ 30) 35 #[.slice A n c, .int .i64 out, .int .i64 pump] ∧ CsOk n out pump L ∧ RowW W b 3 encI A L
  | _, _, _, _ => True
theorem bl2Phi_next {X0 : World} {n : Nat} {hv av bv : Value} {j : Nat} {v : Value} {W W' : World} {γ γ' : Nat → Nat} (hb : Below W.heap.size W W') (hg : (j = 6 ∨ j = 8) → γ' 30 = γ 30 ∧ γ' 20 = γ 20) (h : bl2Phi X0 n hv av bv j v W γ) : bl2Phi X0 n hv av bv j v W' γ' := by
  unfold bl2Phi at h ⊢
  split at h
  all_goals first | exact h | trivial | skip
  · obtain ⟨A, b, c, L, e, h1, h2⟩ := h; exact ⟨A, b, c, L, e, h1, h2.below9 hb⟩
  · obtain ⟨A, b, c, o, p, L, e, h1, h2⟩ := h; exact ⟨A, b, c, o, p, L, e, h1, h2.below9 hb⟩
  · obtain ⟨e, h1, h2⟩ := h
    obtain ⟨g1, g2⟩ := hg (Or.inl rfl)
    rw [g1, g2]
    exact ⟨e, h1, fun z => (h2 z).below hb (h2 z).lt⟩
  · obtain ⟨A, b, c, L, e, h1, h2⟩ := h; exact ⟨A, b, c, L, e, h1, h2.below9 hb⟩
  · obtain ⟨A, b, c, o, p, L, e, h1, h2⟩ := h
    obtain ⟨g1, g2⟩ := hg (Or.inr rfl)
    rw [g1]
    exact ⟨A, b, c, o, p, L, e.below hb e.lt, h1, h2.below9 hb⟩
theorem bl2Phi_store {X0 : World} {n : Nat} {hv av bv : Value} {j : Nat} {v : Value} {W W' : World} {γ γ' : Nat → Nat} {r : Nat} {cs : Array Value} (hk : Keep (fun z => z = r) W W') (hr : Blk W r 35 cs) (hg : γ' 30 = γ 30 ∧ γ' 20 ≠ 0) (h8 : j ≠ 8) (h : bl2Phi X0 n hv av bv j v W γ) : bl2Phi X0 n hv av bv j v W' γ' := by
  unfold bl2Phi at h ⊢
  split at h
  all_goals first | exact h | trivial | exact absurd rfl h8 | skip
  · obtain ⟨A, b, c, L, e, h1, h2⟩ := h; exact ⟨A, b, c, L, e, h1, h2.apart hk hr (by decide)⟩
  · obtain ⟨A, b, c, o, p, L, e, h1, h2⟩ := h; exact ⟨A, b, c, o, p, L, e, h1, h2.apart hk hr (by decide)⟩
  · obtain ⟨e, h1, h2⟩ := h
    rw [hg.1]
    exact ⟨e, h1, fun z => absurd z hg.2⟩
  · obtain ⟨A, b, c, L, e, h1, h2⟩ := h; exact ⟨A, b, c, L, e, h1, h2.apart hk hr (by decide)⟩
theorem sumN_bd {f : Nat → Int} {n : Nat} {B : Int} (h : ∀ i < n, -B ≤ f i ∧ f i ≤ B) : ∀ k ≤ n, -(B * k) ≤ sumN f k ∧ sumN f k ≤ B * k := by
  intro k
  induction k with
  | zero => intro _; simp [sumN]
  | succ k ih =>
    intro hk
    have i1 := ih (by omega)
    have h2 := h k (by omega)
    simp only [sumN, Int.natCast_add, Int.mul_add, Int.natCast_one, Int.mul_one]
    omega
theorem tk_cold {h : Hl} (ok : HlOk h) {p : Int} (hp : 0 ≤ p ∧ p ≤ 100000) {t : List Int} {k : Nat} (hk : k < h.crs.length) (hc : t.getD (h.cr k).rm.toNat 0 ≤ (h.cr k).sp) : (tkL h p t).getD k 0 = 0 := by
  rw [tkL_get hk]
  have hx := cr_mem hk
  obtain ⟨_, h2, h3, h4, h5⟩ := ok.clr _ hx
  have h6 : (h.cr k).gn * (t.getD (h.cr k).rm.toNat 0 - (h.cr k).sp) ≤ 0 := Int.mul_nonpos_of_nonneg_of_nonpos h3.1 (by omega)
  have h7 := fl_nonneg ok p (show (h.cr k).br.toNat < h.brs.length by omega)
  have h9 := (cnC_bd (h.cr k).br h.crs).2 _ hx rfl
  have h10 : 0 ≤ (h.cr k).cr * fl h p (h.cr k).br.toNat / cnC (h.cr k).br h.crs := Int.ediv_nonneg (Int.mul_nonneg h4.1 h7) (by omega)
  unfold tkV
  omega
theorem owV_bd {h : Hl} (ok : HlOk h) {t : List Int} {out : Int} (ht : ∀ x ∈ t, 0 ≤ x ∧ x ≤ 1000000) (ho : 0 ≤ out ∧ out ≤ 1000000) {k : Nat} (hk : k < h.walls.length) : -100000000000 ≤ owV t out (h.wl k) ∧ owV t out (h.wl k) ≤ 100000000000 := by
  have h1 := t_bd ht (h.wl k).a.toNat
  have h3 := mul_bd (d := out - t.getD (h.wl k).a.toNat 0) (ok.wal _ (wl_mem hk)).2.2 (by omega)
  unfold owV
  split <;> omega
end Go.Proofs.Ytndlbjcakfhdiaa
