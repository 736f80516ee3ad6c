/- bank: second, anyway, energies, burnt. -/
import Derived.Test.YtnpkcipeacogcaaBkC

set_option linter.unusedSimpArgs false
set_option linter.unusedVariables false
namespace Go.Proofs.Ytnpkcipeacogcaa
open Go.RowKit

/-- A play's numbers after T seconds. -/
structure PlyOk (T : Int) (p : Ply) : Prop where
  cs : ∀ c ∈ p.cs, CelOk c
  es : ∀ e ∈ p.es, EngOk (1000000 * (T + 1)) e ∧ e.burnt ≤ 1000000 * T
  s0 : 0 ≤ p.served
  s1 : p.served ≤ 1000000 * T
  l0 : 0 ≤ p.lacking
  l1 : p.lacking ≤ 1000000 * T
theorem spareAt_bd {t s : Int} {g : Gen} (h : GenOk g) (hs : s ≤ t → 0 ≤ t - s + 1) : 0 ≤ spareAt t g s ∧ spareAt t g s ≤ 1000000 := by
  have h1 := h.p0
  have h2 := h.p1
  have h3 := h.r0
  unfold spareAt
  split
  · omega
  · split
    · omega
    · have : 0 ≤ g.ramp * (t - s + 1) := Int.mul_nonneg h3 (by omega)
      omega
theorem PlyOk.ready {T t : Int} {p : Ply} (h : PlyOk T p) : ∀ e ∈ (readyP t p).es, EngOk (1000000 * (T + 1)) e := by
  intro e he
  obtain ⟨e0, h0, rfl⟩ := List.mem_map.1 he
  obtain ⟨⟨h1, h2, h3, h4, h5, h6, h7⟩, h8⟩ := h.es e0 h0
  obtain ⟨k1, k2⟩ := spareAt_bd (t := t) (s := e0.since) h1 (fun _ => by omega)
  exact ⟨h1, h2, h3, k1, k2, h6, by show e0.burnt + spareAt t e0.gen e0.since ≤ _; omega⟩
theorem leftOf_bd {B x : Int} {p : Ply} (hx : 0 ≤ x) (hc : ∀ c ∈ p.cs, CelOk c) (he : ∀ e ∈ p.es, EngOk B e) : 0 ≤ leftOf p x ∧ leftOf p x ≤ x := by
  obtain ⟨_, d0, d1⟩ := drawL_ok hx he
  obtain ⟨_, g0, g1⟩ := giveL_ok (n := needOf p.es x) (cs := p.cs) (by unfold needOf; omega) hc
  unfold leftOf
  unfold needOf at g0 g1 ⊢
  omega
theorem serve_ok {T x : Int} {p : Ply} (hx : 0 ≤ x) (hx1 : x ≤ 1000000) (hc : ∀ c ∈ p.cs, CelOk c) (he : ∀ e ∈ p.es, EngOk (1000000 * (T + 1)) e) :
    (∀ c ∈ (serveP p x).cs, CelOk c) ∧ (∀ e ∈ (serveP p x).es, EngOk (1000000 * (T + 1 + 1)) e ∧ e.burnt ≤ 1000000 * (T + 1)) := by
  obtain ⟨d2, d0, d1⟩ := drawL_ok hx he
  obtain ⟨g2, g0, g1⟩ := giveL_ok (n := needOf p.es x) (cs := p.cs) (by unfold needOf; omega) hc
  obtain ⟨k1, k2⟩ := chargeL_ok d2 g2
  refine ⟨k1, fun e h => ?_⟩
  obtain ⟨h1, h2, h3, h4, h5, h6, h7⟩ := k2 e h
  exact ⟨⟨h1, h2, h3, h4, h5, h6, by omega⟩, by omega⟩
theorem PlyOk.go {T t x : Int} {p : Ply} (h : PlyOk T p) (hx : 0 ≤ x) (hx1 : x ≤ 1000000) : PlyOk (T + 1) (goP t p x) := by
  obtain ⟨h1, h2⟩ := serve_ok (p := readyP t p) hx hx1 h.cs h.ready
  obtain ⟨l0, l1⟩ := leftOf_bd (p := readyP t p) hx h.cs h.ready
  have s0 := h.s0
  have s1 := h.s1
  have k0 := h.l0
  have k1 := h.l1
  refine ⟨h1, h2, ?_, ?_, ?_, ?_⟩
  · show 0 ≤ p.served + (x - leftOf (readyP t p) x); omega
  · show p.served + (x - leftOf (readyP t p) x) ≤ _; omega
  · show 0 ≤ p.lacking; omega
  · show p.lacking ≤ _; omega
theorem PlyOk.anyway {T t x : Int} {p : Ply} (h : PlyOk T p) (hx : 0 ≤ x) (hx1 : x ≤ 1000000) : PlyOk (T + 1) (anyP t p x) := by
  obtain ⟨h1, h2⟩ := serve_ok (p := readyP t p) hx hx1 h.cs h.ready
  obtain ⟨l0, l1⟩ := leftOf_bd (p := readyP t p) hx h.cs h.ready
  have s0 := h.s0
  have s1 := h.s1
  have k0 := h.l0
  have k1 := h.l1
  refine ⟨h1, h2, ?_, ?_, ?_, ?_⟩
  · show 0 ≤ p.served + (x - leftOf (readyP t p) x); omega
  · show p.served + (x - leftOf (readyP t p) x) ≤ _; omega
  · show 0 ≤ p.lacking + leftOf (readyP t p) x; omega
  · show p.lacking + leftOf (readyP t p) x ≤ _; omega
/-- What a second makes of a play. -/
def secP (t : Int) (p : Ply) (x : Int) : Ply := if okP t p x = true then goP t p x else darkP t p
theorem Adr.mine_of_E {a : Adr} (b : Nat) (h : a.mineE b) : a.mine b := Or.inr (Or.inr h)
set_option maxRecDepth 100000 in
theorem second_any (a : Adr) (p : Ply) (t x T : Int) (w : World) (hp : PlyIn w a p) (ok : PlyOk T p) (hT : T ≤ 100000) (ht0 : 0 ≤ t) (ht1 : t ≤ 20000) (h0 : 0 ≤ x) (h1 : x ≤ 1000000) :
    Calls Try.prog 31 #[a.ptr, .int .i64 t, .int .i64 x] w fun e w' => e = .returned (.bool (okP t p x)) ∧ PlyIn w' a (secP t p x) ∧ Keep a.mine w w' := by
  have HP := Lib.hid hp
  have KR := Lib.hid (ready_any a p t _ w hp (fun e he => (ok.es e he).1) ht0 ht1)
  have KM := Lib.hid (fun W (h : PlyIn W a (readyP t p)) => most_any a (readyP t p) _ W h ok.ready ok.cs)
  have s0 := ok.s0
  have s1 := ok.s1
  have KS := Lib.hid (fun W (h : PlyIn W a (readyP t p)) => serve_any a (readyP t p) x _ W h ok.ready ok.cs (by omega) h0 h1 s0 (by show p.served ≤ _; omega))
  clear hp
  unfold Adr.ptr at KR KM KS ⊢
  obtain ⟨m, hm⟩ : ∃ z, z = mostP (readyP t p) := ⟨_, rfl⟩
  have HOK : Hid (okP t p x = decide (x ≤ m)) := Lib.hid (by rw [okP, hm])
  rw [← hm] at KM
  clear hm
  by_cases hlt : x ≤ m
  · have hd2 : ¬ m < x := by omega
    have HSE : Hid (secP t p x = serveP (readyP t p) x) := Lib.hid (by rw [secP, HOK.out, decide_eq_true hlt, if_pos rfl, goP])
    rw [HOK.out, decide_eq_true hlt]
    go_enter Try.func31, Try.ntmps31
    go_wp2_with fail
    refine KR.out.mono ?_
    rintro e w1 ⟨rfl, hP1, hK1⟩
    have hK1 := Lib.hid (hK1.mono Adr.mine_of_E)
    have HP1 := Lib.hid hP1
    clear hP1
    go_wp2_with fail
    refine (KM.out _ HP1.out).mono ?_
    rintro e w2 ⟨rfl, hB2⟩
    have HP2 := Lib.hid (HP1.out.next hB2)
    have hK2 := Lib.hid (hK1.out.trans (Keep.of_below hB2))
    clear hB2
    have z0 := HP2.out.head.1
    have c2 := HP2.out.head.2.2.2.1
    have f2 := HP2.out.blk.frozen 2
    go_wp2_with fail
    refine (KS.out _ HP2.out).mono ?_
    rintro e w3 ⟨rfl, hP3, hK3⟩
    have HP3 := Lib.hid hP3
    have hK3 := Lib.hid (hK2.out.trans hK3)
    clear hP3
    go_wp2
    go_ret
    exact ⟨rfl, by rw [HSE.out]; exact HP3.out, hK3.out⟩
  · have hd2 : m < x := by omega
    have HSE : Hid (secP t p x = darkP t p) := Lib.hid (by rw [secP, HOK.out, decide_eq_false (by omega), if_neg (by decide)])
    rw [HOK.out, decide_eq_false (by omega)]
    go_enter Try.func31, Try.ntmps31
    go_wp2_with fail
    refine KR.out.mono ?_
    rintro e w1 ⟨rfl, hP1, hK1⟩
    have hK1 := Lib.hid (hK1.mono Adr.mine_of_E)
    have HP1 := Lib.hid hP1
    clear hP1
    go_wp2_with fail
    refine (KM.out _ HP1.out).mono ?_
    rintro e w2 ⟨rfl, hB2⟩
    have HP2 := Lib.hid (HP1.out.next hB2)
    have hK2 := Lib.hid (hK1.out.trans (Keep.of_below hB2))
    clear hB2
    have z0 := HP2.out.head.1
    have c2 := HP2.out.head.2.2.2.1
    have f2 := HP2.out.blk.frozen 2
    go_wp2
    go_ret
    refine ⟨rfl, ?_, hK2.out.setCell (Or.inl rfl) _⟩
    rw [HSE.out]
    exact HP2.out.setP (j := 2) rfl rfl rfl
/-- Before a call, behind it, behind the store. -/
def PhR (A0 A1 A2 : World → Prop) (W : World) (γ : Nat → Nat) : Prop := (γ 0 = 0 ∧ A0 W) ∨ (γ 0 = 1 ∧ A1 W) ∨ (γ 0 = 2 ∧ A2 W)
def phPsi (cl i : Nat) (_ : World) (γ : Nat → Nat) : Prop := (i = cl → γ 0 = 0) ∧ (i ≠ cl → γ 0 ≠ 2)
section
variable {A0 A1 A2 : World → Prop} {W W' : World} {γ : Nat → Nat} {cl i : Nat}
theorem PhR.begin (h : A0 W) : PhR A0 A1 A2 W (fun _ => 0) := Or.inl ⟨rfl, h⟩
theorem phPsi_0 : phPsi cl i W (fun _ => 0) := ⟨fun _ => rfl, fun _ => by decide⟩
theorem phPsi_1 (h : i ≠ cl) : phPsi cl i W (fun _ => 1) := ⟨fun e => absurd e h, fun _ => by decide⟩
theorem phPsi_w (h : phPsi cl i W γ) : phPsi cl i W' γ := h
theorem PhR.is0 (h : PhR A0 A1 A2 W γ) (h0 : γ 0 = 0) : A0 W := by
  rcases h with ⟨_, h⟩ | ⟨e, _⟩ | ⟨e, _⟩
  · exact h
  · omega
  · omega
theorem PhR.is1 (h : PhR A0 A1 A2 W γ) (h2 : γ 0 ≠ 2) (h0 : γ 0 ≠ 0) : γ 0 = 1 ∧ A1 W := by
  rcases h with ⟨e, _⟩ | h | ⟨e, _⟩
  · omega
  · exact h
  · omega
theorem PhR.is2 (h : PhR A0 A1 A2 W γ) (h2 : γ 0 = 2) : A2 W := by
  rcases h with ⟨e, _⟩ | ⟨e, _⟩ | ⟨_, h⟩
  · omega
  · omega
  · exact h
theorem PhR.to1 (h : A1 W) : PhR A0 A1 A2 W (fun _ => 1) := Or.inr (Or.inl ⟨rfl, h⟩)
theorem PhR.to2 (h : A2 W) : PhR A0 A1 A2 W (fun _ => 2) := Or.inr (Or.inr ⟨rfl, h⟩)
theorem PhR.not2 {C : World → Prop} (h : PhR A0 A1 A2 W γ) (h2 : γ 0 ≠ 2) (k0 : ∀ W, A0 W → C W) (k1 : ∀ W, A1 W → C W) : C W := by
  rcases h with ⟨_, h⟩ | ⟨_, h⟩ | ⟨e, _⟩
  · exact k0 W h
  · exact k1 W h
  · omega
theorem PhR.any {C : World → Prop} (h : PhR A0 A1 A2 W γ) (k0 : ∀ W, A0 W → C W) (k1 : ∀ W, A1 W → C W) (k2 : ∀ W, A2 W → C W) : C W := by
  rcases h with ⟨_, h⟩ | ⟨_, h⟩ | ⟨_, h⟩
  · exact k0 W h
  · exact k1 W h
  · exact k2 W h
theorem PhR.next (h : PhR A0 A1 A2 W γ) (k0 : A0 W → A0 W') (k1 : A1 W → A1 W') (k2 : A2 W → A2 W') : PhR A0 A1 A2 W' γ := by
  rcases h with ⟨e, h⟩ | ⟨e, h⟩ | ⟨e, h⟩
  · exact Or.inl ⟨e, k0 h⟩
  · exact Or.inr (Or.inl ⟨e, k1 h⟩)
  · exact Or.inr (Or.inr ⟨e, k2 h⟩)
end
def anyPhi (bp : Nat) (lk : Int) (x : Int) (lf : Int) : Nat → Value → World → (Nat → Nat) → Prop
  | 0, v, _, _ => v = .pointer (some ⟨bp, 0, none⟩)
  | 1, v, _, _ => v = .pointer (some ⟨bp, 0, none⟩)
  | 2, v, _, _ => v = .pointer (some ⟨bp, 4, none⟩)
  | 3, v, _, _ => v = .int .i64 lk
  | 4, v, _, _ => v = .pointer (some ⟨bp, 0, none⟩)
  | 5, v, _, _ => v = .int .i64 x
  | 6, v, _, γ => v = .int .i64 lf ∧ γ 0 ≠ 0
  | 7, v, _, _ => v = .int .i64 (lk + lf)
  | 8, v, _, _ => v = .pointer (some ⟨bp, 0, none⟩)
  | 9, v, _, _ => v = .pointer (some ⟨bp, 4, none⟩)
  | 10, _, _, γ => γ 0 = 2
  | _, _, _, _ => True
theorem anyPhi_w {bp : Nat} {lk : Int} {x : Int} {lf : Int} {i : Nat} {W W' : World} {γ : Nat → Nat} {v : Value} (h : anyPhi bp lk x lf i v W γ) : anyPhi bp lk x lf i v W' γ := by
  unfold anyPhi at h ⊢
  split at h <;> first | exact h | trivial
theorem anyPhi_1 {bp : Nat} {lk : Int} {x : Int} {lf : Int} {i : Nat} {W W' : World} {γ : Nat → Nat} {v : Value} (h0 : γ 0 = 0) (hi : i ≠ 6) (h : anyPhi bp lk x lf i v W γ) : anyPhi bp lk x lf i v W' (fun _ => 1) := by
  unfold anyPhi at h ⊢
  split at h <;> first | exact h | exact absurd rfl hi | (exfalso; omega) | trivial
theorem anyPhi_2 {bp : Nat} {lk : Int} {x : Int} {lf : Int} {i : Nat} {W W' : World} {γ : Nat → Nat} {v : Value} (hi : i ≠ 10) (h : anyPhi bp lk x lf i v W γ) : anyPhi bp lk x lf i v W' (fun _ => 2) := by
  unfold anyPhi at h ⊢
  split at h <;> first | exact h | exact absurd rfl hi | exact ⟨h.1, by decide⟩ | exact (by decide : (2 : Nat) ≠ 0) | trivial
set_option maxRecDepth 100000 in
set_option maxHeartbeats 4000000 in
theorem anyway_any (a : Adr) (p : Ply) (t x T : Int) (w : World) (hp : PlyIn w a p) (ok : PlyOk T p) (hT : T ≤ 100000) (ht0 : 0 ≤ t) (ht1 : t ≤ 20000) (h0 : 0 ≤ x) (h1 : x ≤ 1000000) :
    Calls Try.prog 52 #[a.ptr, .int .i64 t, .int .i64 x] w fun e w' => e = .returned (.bool true) ∧ PlyIn w' a (anyP t p x) ∧ Keep a.mine w w' := by
  have KR := Lib.hid (ready_any a p t _ w hp (fun e he => (ok.es e he).1) ht0 ht1)
  have s0 := ok.s0
  have s1 := ok.s1
  have k0 := ok.l0
  have k1 := ok.l1
  have KS := Lib.hid (fun W (h : PlyIn W a (readyP t p)) => serve_any a (readyP t p) x _ W h ok.ready ok.cs (by omega) h0 h1 s0 (by show p.served ≤ _; omega))
  obtain ⟨l0, l1⟩ := leftOf_bd (p := readyP t p) h0 ok.cs ok.ready
  clear hp ok
  obtain ⟨bp, bc, be, cA, eA, nc, cc, ne, ec⟩ := a
  unfold Adr.ptr at KR KS ⊢
  dsimp only at KR KS ⊢
  obtain ⟨lf, hlf⟩ : ∃ z, z = leftOf (readyP t p) x := ⟨_, rfl⟩
  obtain ⟨q, hq⟩ : ∃ z, z = serveP (readyP t p) x := ⟨_, rfl⟩
  have hql : q.lacking = p.lacking := by rw [hq]; rfl
  have hqd : q.dark = p.dark := by rw [hq]; rfl
  have HFIN : Hid (anyP t p x = { q with lacking := p.lacking + lf }) := Lib.hid (by rw [anyP, hq, hlf])
  rw [← hlf] at l0 l1
  rw [← hlf, ← hq] at KS
  obtain ⟨P0, hP0⟩ : ∃ z, z = readyP t p := ⟨_, rfl⟩
  have hPl : P0.lacking = p.lacking := by rw [hP0]; rfl
  have hPd : P0.dark = p.dark := by rw [hP0]; rfl
  rw [← hP0] at KR KS
  obtain ⟨P0cs, P0es, dk, sv, lk⟩ := P0
  obtain ⟨P1cs, P1es, dk1, sv1, lk1⟩ := q
  dsimp only at hql hqd hPl hPd HFIN
  subst hql
  subst hqd
  subst hPl
  subst hPd
  clear hlf hq hP0
  have e1 : -9223372036854775808 ≤ p.lacking + lf := by omega
  have e2 : p.lacking + lf ≤ 9223372036854775807 := by omega
  have e3 : IntKind.i64.wrap (p.lacking + lf) = p.lacking + lf := IntWalk.i64_in _ (by omega)
  obtain ⟨lk, hlk⟩ : ∃ z, z = p.lacking := ⟨_, rfl⟩
  obtain ⟨dk, hdk⟩ : ∃ z, z = p.dark := ⟨_, rfl⟩
  rw [← hlk] at e1 e2 e3
  simp only [← hlk, ← hdk] at KR KS HFIN
  clear hlk hdk
  go_enter Try.func52, Try.ntmps52
  go_wp2_with fail
  refine KR.out.mono ?_
  rintro e w1 ⟨rfl, hP1, hK1⟩
  have hK1 := Lib.hid (hK1.mono Adr.mine_of_E)
  have hP1 := Lib.hid hP1
  go_wp2_with fail
  refine wp_region_free10 10 (by kernel_rfl) [some 10, some 11, some 12, some 13, some 14, some 15, some 16, some 17, some 18, some 19, none] [[], [0], [1], [2], [], [], [4, 5], [3, 6], [0, 0, 1, 2, 3, 4, 5, 6, 7], [8, 0, 1, 2, 3, 4, 5, 6, 7], [9, 7, 6, 0, 1, 2, 3, 4, 5, 6, 7]] [(0, .pointer (some ⟨bp, 0, none⟩)), (2, .int .i64 x)] (PhR (fun W => Keep (Adr.mine ⟨bp, bc, be, cA, eA, nc, cc, ne, ec⟩) w W ∧ PlyIn W ⟨bp, bc, be, cA, eA, nc, cc, ne, ec⟩ ⟨P0cs, P0es, dk, sv, lk⟩) (fun W => Keep (Adr.mine ⟨bp, bc, be, cA, eA, nc, cc, ne, ec⟩) w W ∧ PlyIn W ⟨bp, bc, be, cA, eA, nc, cc, ne, ec⟩ ⟨P1cs, P1es, dk, sv1, lk⟩) (fun W => Keep (Adr.mine ⟨bp, bc, be, cA, eA, nc, cc, ne, ec⟩) w W ∧ PlyIn W ⟨bp, bc, be, cA, eA, nc, cc, ne, ec⟩ ⟨P1cs, P1es, dk, sv1, lk + lf⟩)) (anyPhi bp lk x lf) (phPsi 6) (by kernel_rfl) (by kernel_rfl) rfl (by kernel_rfl) ?_ ?_ ⟨fun _ => 0, PhR.begin ⟨hK1.out.drew, hP1.out.drew⟩, fun i _ => phPsi_0⟩ ?_ ?_
  · intro z hz
    simp only [List.mem_cons, List.mem_nil_iff, or_false] at hz
    rcases hz with rfl | rfl
    all_goals exact ⟨by kernel_rfl, rfl⟩
  · intro i v W γ hi h
    rcases i with _ | _ | _ | _ | _ | _ | _ | _ | _ | _ | _ | i
    all_goals first | exact h | (simp at hi)
  · refine ⟨?_, ?_, ?_, ?_, ?_, ?_, ?_, ?_, ?_, ?_, ?_, trivial⟩
    all_goals
      intro a W γ ev hcc hff hfx hR hψ hpre
      simp only [List.mem_cons, List.mem_nil_iff, or_false, forall_eq, forall_eq_or_imp] at hfx
      obtain ⟨f0, f1⟩ := hfx
      have HR := Lib.hid hR
      clear hR
      refine ⟨fun _ K hK => ?_, trivial⟩

    · clear hpre hψ
      go_simp
      exact hK _ _ γ HR.out (fun _ _ _ _ h => h) (fun _ _ _ h => h) rfl
    · have q0 : ev (.tmp 10) = _ := hpre 0 (by decide)
      clear hpre hψ
      go_simp
      exact hK _ _ γ HR.out (fun _ _ _ _ h => h) (fun _ _ _ h => h) rfl
    · have q0 : ev (.tmp 11) = _ := hpre 1 (by decide)
      clear hpre hψ
      go_simp
      exact hK _ _ γ HR.out (fun _ _ _ _ h => h) (fun _ _ _ h => h) rfl
    · have q0 : ev (.tmp 12) = _ := hpre 2 (by decide)
      have hx4 : W.cell? ⟨bp, 4, none⟩ = some (.int .i64 lk) := PhR.not2 HR.out (hψ.2 (by decide)) (fun W h => h.2.head.2.2.2.2.2) (fun W h => h.2.head.2.2.2.2.2)
      clear hpre hψ
      go_simp
      exact hK _ _ γ HR.out (fun _ _ _ _ h => h) (fun _ _ _ h => h) rfl
    · clear hpre hψ
      go_simp
      exact hK _ _ γ HR.out (fun _ _ _ _ h => h) (fun _ _ _ h => h) rfl
    · clear hpre hψ
      go_simp
      exact hK _ _ γ HR.out (fun _ _ _ _ h => h) (fun _ _ _ h => h) rfl
    · have q0 : ev (.tmp 14) = _ := hpre 4 (by decide)
      have q1 : ev (.tmp 15) = _ := hpre 5 (by decide)
      have hγ : γ 0 = 0 := hψ.1 rfl
      have h0 := PhR.is0 HR.out hγ
      have C := Lib.hid (KS.out W h0.2)
      have hK0 := Lib.hid h0.1
      clear h0
      go_simp
      refine C.out.mono ?_
      rintro e w5 ⟨rfl, hP5, hK5⟩
      refine hK _ w5 (fun _ => 1) (PhR.to1 ⟨hK0.out.trans hK5, hP5⟩) (fun j u h1 h2 h3 => ?_) (fun _ j h1 h2 => ?_) ⟨rfl, by decide⟩
      · exact anyPhi_1 hγ h2 h3
      · exact phPsi_1 h1
    · have q0 : ev (.tmp 13) = _ := hpre 3 (by decide)
      have q1 : ev (.tmp 16) = _ := (hpre 6 (by decide)).1
      clear hpre hψ
      go_simp
      exact hK _ _ γ HR.out (fun _ _ _ _ h => h) (fun _ _ _ h => h) rfl
    · have q0 : ev (.tmp 10) = _ := hpre 0 (by decide)
      clear hpre hψ
      go_simp
      exact hK _ _ γ HR.out (fun _ _ _ _ h => h) (fun _ _ _ h => h) rfl
    · have q0 : ev (.tmp 18) = _ := hpre 8 (by decide)
      clear hpre hψ
      go_simp
      exact hK _ _ γ HR.out (fun _ _ _ _ h => h) (fun _ _ _ h => h) rfl
    · have q0 : ev (.tmp 19) = _ := hpre 9 (by decide)
      have q1 : ev (.tmp 17) = _ := hpre 7 (by decide)
      have h1 := PhR.is1 HR.out (hψ.2 (by decide)) (hpre 6 (by decide)).2
      have hP1 := Lib.hid h1.2.2
      have hK1 := Lib.hid h1.2.1
      have zb := hP1.out.head.1
      have ch := hP1.out.head.2.2.2.2.2
      have fh := hP1.out.blk.frozen 4
      dsimp only at zb ch fh
      clear h1
      go_simp
      refine hK undef _ (fun _ => 2) (PhR.to2 ⟨hK1.out.setCell (Or.inl rfl) _, hP1.out.setP (j := 4) rfl rfl rfl⟩) (fun j u h1 h2 h3 => ?_) (fun h => absurd rfl h) rfl
      exact anyPhi_2 h2 h3
  · intro vs w' γ hvl hR hφ
    have qe : γ 0 = 2 := hφ 10 (by decide)
    have HR := Lib.hid hR
    clear hφ hR
    match vs, hvl with
    | [y0, y1, y2, y3, y4, y5, y6, y7, y8, y9, y10], _ =>
    have h2 := PhR.is2 HR.out qe
    have hP2 := Lib.hid h2.2
    have hK2 := Lib.hid h2.1
    clear h2 qe HR
    simp [putAll]
    go_wp2
    go_ret
    exact ⟨rfl, by rw [HFIN.out]; exact hP2.out, hK2.out⟩
/-- A list of numbers as cells. -/
def intsA (l : List Int) : Array Value := (l.map (Value.int .i64)).toArray
theorem intInfo : (Try.prog.info? 3).map (fun i => (i.zero, i.size, i.bytes)) = some (some (.int .i64 0), 1, 8) := by kernel_rfl
theorem madeCells_int (n : Nat) : madeCells (Value.int .i64 0).cells n = intsA (List.replicate n 0) := by
  unfold madeCells intsA
  apply Array.ext
  · simp
  · intro i h1 h2
    have : i % 1 = 0 := Nat.mod_one i
    simp [Value.cells, this]
/-- make([]int, n). -/
theorem run_makeInts (n : Nat) (hn : n ≤ 140737488) (w : World) : (Instr.makeSlice 30 (.int .i64 n) (.int .i64 n)).run Try.prog w = .ok (.slice (some ⟨w.heap.size, 0, none⟩) n n) (w.alloc (.cells (intsA (List.replicate n 0)) 3)) := by
  obtain ⟨i, hi, hz, hs, hb⟩ := info_parts intInfo
  have h := run_make (P := Try.prog) w 30 3 i _ Try.underlying30 hi hz .i64 .i64 n n (by omega) (by omega) (by rw [hb]; omega) (by omega)
  simp only [Int.toNat_natCast, hs, Nat.mul_one, madeCells_int] at h
  exact h
/-- The first k numbers of a list, zeros behind them. -/
def intsTo (l : List Int) (k : Nat) : List Int := l.take k ++ List.replicate (l.length - k) 0
theorem intsTo_zero (l : List Int) (n : Nat) (h : l.length = n) : List.replicate n 0 = intsTo l 0 := by simp [intsTo, h]
theorem intsTo_length (l : List Int) (k : Nat) : (intsTo l k).length = l.length := by
  simp only [intsTo, List.length_append, List.length_take, List.length_replicate]
  omega
theorem intsTo_end {l : List Int} {n : Nat} (h : l.length = n) : intsTo l n = l := by
  subst h
  simp [intsTo]
theorem intsTo_succ {l : List Int} {k : Nat} {x : Int} (h : l[k]? = some x) : (intsTo l k).set k x = intsTo l (k + 1) := by
  have hk := (List.getElem?_eq_some_iff.1 h).1
  have e : (l.take k).length = k := by rw [List.length_take]; omega
  unfold intsTo
  rw [take_at h, List.set_append_right _ _ (by omega), e, Nat.sub_self, show l.length - k = (l.length - (k + 1)) + 1 by omega, List.replicate_succ, List.set_cons_zero, List.append_assoc]
  rfl
theorem intsA_set (l : List Int) (k : Nat) (x : Int) : (intsA l).setIfInBounds k (.int .i64 x) = intsA (l.set k x) := by
  unfold intsA
  rw [List.setIfInBounds_toArray, List.map_set]
set_option maxRecDepth 100000 in
theorem energies_any (a : Adr) (p : Ply) (w : World) (hp : PlyIn w a p) :
    Calls Try.prog 32 #[a.ptr] w fun e w' => ∃ g, e = .returned (.slice (some ⟨g, 0, none⟩) a.nc a.nc) ∧ Below w.heap.size w w' ∧ w.heap.size ≤ g ∧ Blk w' g 3 (intsA (energies p)) := by
  have HP := Lib.hid hp
  have hle := hp.he
  have hlc := hp.hc
  have HN := Lib.hid hp.nc
  obtain ⟨bp, bc, be, cA, eA, nc, cc, ne, ec⟩ := a
  obtain ⟨z0, c0, c1, c2, c3, c4⟩ := hp.head
  dsimp only at *
  clear hp
  unfold Adr.ptr
  dsimp only
  go_enter Try.func32, Try.ntmps32
  go_wp2
  rw [show ∀ V, Sem.run Try.prog (Instr.makeSlice 30 (.int .i64 nc) (.int .i64 nc)) V = _ from run_makeInts nc (by omega), intsTo_zero (energies p) nc (by simp [energies]; exact HN.out)]
  go_wp2
  go_loopw [17] (fun i wr => ∃ k : Nat, k ≤ nc ∧ i = .int .i64 k ∧ Hid (Below w.heap.size w wr) ∧ Hid (Blk wr w.heap.size 3 (intsA (intsTo (energies p) k)))) (fun i _ => nc - (intOf i).toNat)
  case atStart => exact ⟨0, by omega, rfl, Lib.hid (by (repeat' (first | (with_reducible exact Below.refl _ _) | (with_reducible assumption) | (with_reducible refine below_drewN ?_ _) | (with_reducible refine below_after (by assumption) ?_ ?_) | (with_reducible refine Below.drew ?_) | (with_reducible refine Below.alloc ?_ ?_ _) | (with_reducible refine Below.setCell ?_ ?_ _) | omega | (simp; omega) | (simp; done)))), heap_alloc_new w _⟩
  case round =>
    obtain ⟨k, hk, rfl, hB, hG⟩ := hrel
    have hP := Lib.hid (HP.out.next hB.out)
    have hzz := Blk.lt hG.out
    by_cases hlt : k < nc
    · obtain ⟨c, hx⟩ : ∃ c, p.cs[k]? = some c := ⟨_, List.getElem?_eq_getElem (by rw [HN.out]; exact hlt)⟩
      obtain ⟨hA, zb, hf, x0, x1, x2, x3, x4⟩ := hP.out.cs.at_ Cel.enc_len hx |> fun h => (⟨h.1, h.2.1, h.2.2.1, h.2.2.2 0 _ rfl, h.2.2.2 1 _ rfl, h.2.2.2 2 _ rfl, h.2.2.2 3 _ rfl, h.2.2.2 4 _ rfl⟩ : _ ∧ _ ∧ _ ∧ _ ∧ _ ∧ _ ∧ _ ∧ _)
      dsimp only at hA zb x0 x1 x2 x3 x4
      rw [Nat.add_zero] at x0
      subst hA
      have HX := Lib.hid hx
      have hk0 : (0 : Int) ≤ (k : Int) := by omega
      have hkn : (k : Int) < (nc : Int) := by omega
      obtain ⟨u, hu⟩ : ∃ u, wr.cell? ⟨w.heap.size, k, none⟩ = some (.int .i64 u) := by
        have h := Blk.cell hG.out k
        have hl : k < (intsTo (energies p) k).length := by rw [intsTo_length]; simp [energies]; rw [HN.out]; exact hlt
        exact ⟨(intsTo (energies p) k)[k], by rw [h]; simp [intsA, List.getElem?_eq_getElem hl]⟩
      have hfu := Blk.frozen hG.out k
      clear hf hx
      go_wp2
      go_roundw
      case rel =>
        refine ⟨k + 1, by omega, by go_num, Lib.hid (by have h1 := hB.out; (repeat' (first | (with_reducible exact Below.refl _ _) | (with_reducible assumption) | (with_reducible refine below_drewN ?_ _) | (with_reducible refine below_after (by assumption) ?_ ?_) | (with_reducible refine Below.drew ?_) | (with_reducible refine Below.alloc ?_ ?_ _) | (with_reducible refine Below.setCell ?_ ?_ _) | omega | (simp; omega) | (simp; done)))), ?_⟩
        have h0 := fun (W : World) (h : Blk W w.heap.size 3 (intsA (intsTo (energies p) k))) => (show Blk (W.setCell ⟨w.heap.size, k, none⟩ (.int .i64 c.held)) w.heap.size 3 (intsA (intsTo (energies p) (k + 1))) by
          have h1 := Blk.set_ h k (.int .i64 c.held)
          rw [intsA_set, intsTo_succ (show (energies p)[k]? = some c.held by simp [energies, HX.out])] at h1
          exact h1)
        first | exact h0 _ (Blk.alloc hG.out _) | exact Blk.alloc (h0 _ hG.out) _
      case measure => simp [intOf]; omega
    · obtain rfl : k = nc := by omega
      go_wp2
      go_ret
      refine ⟨_, rfl, hB.out, Nat.le_refl _, ?_⟩
      have h1 := hG.out
      rw [intsTo_end (by simp [energies]; exact HN.out)] at h1
      exact h1
set_option maxRecDepth 100000 in
theorem burnt_any (a : Adr) (p : Ply) (w : World) (hp : PlyIn w a p) :
    Calls Try.prog 42 #[a.ptr] w fun e w' => ∃ g, e = .returned (.slice (some ⟨g, 0, none⟩) a.ne a.ne) ∧ Below w.heap.size w w' ∧ w.heap.size ≤ g ∧ Blk w' g 3 (intsA (burnts p)) := by
  have HP := Lib.hid hp
  have hle := hp.he
  have hlc := hp.hc
  have HN := Lib.hid hp.ne
  obtain ⟨bp, bc, be, cA, eA, nc, cc, ne, ec⟩ := a
  obtain ⟨z0, c0, c1, c2, c3, c4⟩ := hp.head
  dsimp only at *
  clear hp
  unfold Adr.ptr
  dsimp only
  go_enter Try.func42, Try.ntmps42
  go_wp2
  rw [show ∀ V, Sem.run Try.prog (Instr.makeSlice 30 (.int .i64 ne) (.int .i64 ne)) V = _ from run_makeInts ne (by omega), intsTo_zero (burnts p) ne (by simp [burnts]; exact HN.out)]
  go_wp2
  go_loopw [17] (fun i wr => ∃ k : Nat, k ≤ ne ∧ i = .int .i64 k ∧ Hid (Below w.heap.size w wr) ∧ Hid (Blk wr w.heap.size 3 (intsA (intsTo (burnts p) k)))) (fun i _ => ne - (intOf i).toNat)
  case atStart => exact ⟨0, by omega, rfl, Lib.hid (by (repeat' (first | (with_reducible exact Below.refl _ _) | (with_reducible assumption) | (with_reducible refine below_drewN ?_ _) | (with_reducible refine below_after (by assumption) ?_ ?_) | (with_reducible refine Below.drew ?_) | (with_reducible refine Below.alloc ?_ ?_ _) | (with_reducible refine Below.setCell ?_ ?_ _) | omega | (simp; omega) | (simp; done)))), heap_alloc_new w _⟩
  case round =>
    obtain ⟨k, hk, rfl, hB, hG⟩ := hrel
    have hP := Lib.hid (HP.out.next hB.out)
    have hzz := Blk.lt hG.out
    by_cases hlt : k < ne
    · obtain ⟨c, hx⟩ : ∃ c, p.es[k]? = some c := ⟨_, List.getElem?_eq_getElem (by rw [HN.out]; exact hlt)⟩
      obtain ⟨hA, zb, hf, x0, x1, x2, x3, x4, x5, x6, x7⟩ := hP.out.es.at_ Eng.enc_len hx |> fun h => (⟨h.1, h.2.1, h.2.2.1, h.2.2.2 0 _ rfl, h.2.2.2 1 _ rfl, h.2.2.2 2 _ rfl, h.2.2.2 3 _ rfl, h.2.2.2 4 _ rfl, h.2.2.2 5 _ rfl, h.2.2.2 6 _ rfl, h.2.2.2 7 _ rfl⟩ : _ ∧ _ ∧ _ ∧ _ ∧ _ ∧ _ ∧ _ ∧ _ ∧ _ ∧ _ ∧ _)
      dsimp only at hA zb x0 x1 x2 x3 x4 x5 x6 x7
      rw [Nat.add_zero] at x0
      subst hA
      have HX := Lib.hid hx
      have hk0 : (0 : Int) ≤ (k : Int) := by omega
      have hkn : (k : Int) < (ne : Int) := by omega
      obtain ⟨u, hu⟩ : ∃ u, wr.cell? ⟨w.heap.size, k, none⟩ = some (.int .i64 u) := by
        have h := Blk.cell hG.out k
        have hl : k < (intsTo (burnts p) k).length := by rw [intsTo_length]; simp [burnts]; rw [HN.out]; exact hlt
        exact ⟨(intsTo (burnts p) k)[k], by rw [h]; simp [intsA, List.getElem?_eq_getElem hl]⟩
      have hfu := Blk.frozen hG.out k
      clear hf hx
      go_wp2
      go_roundw
      case rel =>
        refine ⟨k + 1, by omega, by go_num, Lib.hid (by have h1 := hB.out; (repeat' (first | (with_reducible exact Below.refl _ _) | (with_reducible assumption) | (with_reducible refine below_drewN ?_ _) | (with_reducible refine below_after (by assumption) ?_ ?_) | (with_reducible refine Below.drew ?_) | (with_reducible refine Below.alloc ?_ ?_ _) | (with_reducible refine Below.setCell ?_ ?_ _) | omega | (simp; omega) | (simp; done)))), ?_⟩
        have h0 := fun (W : World) (h : Blk W w.heap.size 3 (intsA (intsTo (burnts p) k))) => (show Blk (W.setCell ⟨w.heap.size, k, none⟩ (.int .i64 c.burnt)) w.heap.size 3 (intsA (intsTo (burnts p) (k + 1))) by
          have h1 := Blk.set_ h k (.int .i64 c.burnt)
          rw [intsA_set, intsTo_succ (show (burnts p)[k]? = some c.burnt by simp [burnts, HX.out])] at h1
          exact h1)
        first | exact h0 _ (Blk.alloc hG.out _) | exact Blk.alloc (h0 _ hG.out) _
      case measure => simp [intOf]; omega
    · obtain rfl : k = ne := by omega
      go_wp2
      go_ret
      refine ⟨_, rfl, hB.out, Nat.le_refl _, ?_⟩
      have h1 := hG.out
      rw [intsTo_end (by simp [burnts]; exact HN.out)] at h1
      exact h1
end Go.Proofs.Ytnpkcipeacogcaa
