/- meter: the mixing of signs, signs of readings, what is right. -/
import Derived.Test.YtcecbohaajocfaaMtB

set_option linter.unusedSimpArgs false
set_option linter.unusedVariables false
namespace Go.Proofs.Ytcecbohaajocfaa
open Go.RowKit

def mixZ (x y : Int) : Int := IntKind.u64.wrap (bits BinOp.xor IntKind.u64 x y * 11400714819323198485)
def mixY (z : Int) : Int := IntKind.u64.wrap (bits BinOp.xor IntKind.u64 z (z / 536870912) * 13787848793156543929)
def mixF (x y : Int) : Int := bits BinOp.xor IntKind.u64 (mixY (mixZ x y)) (mixY (mixZ x y) / 4294967296)
set_option maxRecDepth 100000 in
theorem Mix_any (x y : Int) (w : World) : Calls Try.prog 88 #[.int .u64 x, .int .u64 y] w fun e w' => e = .returned (.int .u64 (mixF x y)) ∧ w' = w := by
  go_enter Try.func88, Try.ntmps88
  go_wp2
  go_ret
  exact ⟨rfl, rfl⟩
/-- A reading. -/
structure Rg where
  m : Int
  h : Int
  v : Int
def Rg.enc (r : Rg) : List Value := [.int .i64 r.m, .int .i64 r.h, .int .i64 r.v]
structure RgOk (r : Rg) : Prop where
  m : 0 ≤ r.m ∧ r.m ≤ 63
  h : 0 ≤ r.h ∧ r.h ≤ 1000000000
  v : 0 ≤ r.v ∧ r.v ≤ 1000000000
def signF (key before : Int) (r : Rg) : Int := mixF (mixF (mixF (mixF before r.m) r.h) r.v) key
theorem start_any (key : Int) (w : World) : Calls Try.prog 54 #[.int .u64 key] w fun e w' => e = .returned (.int .u64 (mixF key 1)) ∧ w' = w := by
  go_enter Try.func54, Try.ntmps54
  go_wp2_with fail
  refine (Mix_any key 1 w).mono ?_
  rintro e w1 ⟨rfl, rfl⟩
  obtain ⟨m, hm⟩ : ∃ z, z = mixF key 1 := ⟨_, rfl⟩
  have HM := Lib.hid hm
  rw [← hm]
  clear hm
  go_wp2
  go_ret
  exact ⟨by rw [← HM.out]; rfl, rfl⟩
set_option maxRecDepth 100000 in
theorem sign_any (key before : Int) (r : Rg) (ok : RgOk r) (w : World) : Calls Try.prog 56 #[.agg #[.int .i64 r.m, .int .i64 r.h, .int .i64 r.v], .int .u64 key, .int .u64 before] w fun e w' => e = .returned (.int .u64 (signF key before r)) ∧ Below w.heap.size w w' := by
  obtain ⟨m, h, v⟩ := r
  obtain ⟨h1, h2, h3⟩ := ok
  dsimp only at h1 h2 h3 ⊢
  have w1 : IntKind.u64.wrap m = m := IntWalk.u64_in _ (by omega)
  have w2 : IntKind.u64.wrap h = h := IntWalk.u64_in _ (by omega)
  have w3 : IntKind.u64.wrap v = v := IntWalk.u64_in _ (by omega)
  have HF : Hid (∀ a b c d, mixF before m = a → mixF a h = b → mixF b v = c → mixF c key = d → signF key before ⟨m, h, v⟩ = d) := Lib.hid (by
    rintro a b c d rfl rfl rfl rfl
    rfl)
  have KX := Lib.hid (fun x y W => Mix_any x y W)
  clear h1 h2 h3
  have g1 : w.heap.size < w.heap.size + 1 := by omega
  go_enter Try.func56, Try.ntmps56
  go_wp2_with fail
  refine (KX.out before m _).mono ?_
  rintro e w4 ⟨rfl, rfl⟩
  obtain ⟨a, ha⟩ : ∃ z, z = mixF before m := ⟨_, rfl⟩
  have HA := Lib.hid ha
  rw [← ha]
  clear ha
  go_wp2_with fail
  refine (KX.out a h _).mono ?_
  rintro e w5 ⟨rfl, rfl⟩
  obtain ⟨b, hb⟩ : ∃ z, z = mixF a h := ⟨_, rfl⟩
  have HB := Lib.hid hb
  rw [← hb]
  clear hb
  go_wp2_with fail
  refine (KX.out b v _).mono ?_
  rintro e w6 ⟨rfl, rfl⟩
  obtain ⟨c, hc⟩ : ∃ z, z = mixF b v := ⟨_, rfl⟩
  have HC := Lib.hid hc
  rw [← hc]
  clear hc
  go_wp2_with fail
  refine (KX.out c key _).mono ?_
  rintro e w7 ⟨rfl, rfl⟩
  obtain ⟨d, hd⟩ : ∃ z, z = mixF c key := ⟨_, rfl⟩
  have HD := Lib.hid hd
  rw [← hd]
  clear hd
  go_wp2
  go_ret
  exact ⟨by rw [HF.out a b c d HA.out.symm HB.out.symm HC.out.symm HD.out.symm]; rfl, (Below.refl _ _).alloc (Nat.le_refl _) _⟩
theorem rightR_any (r : Rg) (ok : RgOk r) (w : World) : Calls Try.prog 89 #[.agg #[.int .i64 r.m, .int .i64 r.h, .int .i64 r.v]] w fun e w' => e = .returned (.bool true) ∧ Below w.heap.size w w' := by
  obtain ⟨m, h, v⟩ := r
  obtain ⟨h1, h2, h3⟩ := ok
  dsimp only at h1 h2 h3 ⊢
  have K1 := Lib.hid (fun W => within_yes (n := m) (a := 0) (b := 63) h1 W)
  have K2 := Lib.hid (fun W => within_yes (n := h) (a := 0) (b := 1000000000) h2 W)
  have K3 := Lib.hid (fun W => within_yes (n := v) (a := 0) (b := 1000000000) h3 W)
  clear h1 h2 h3
  have g1 : w.heap.size < w.heap.size + 1 := by omega
  go_enter Try.func89, Try.ntmps89
  go_wp2_with fail
  refine (K1.out _).mono ?_
  rintro e w4 ⟨rfl, rfl⟩
  go_wp2_with fail
  refine (K2.out _).mono ?_
  rintro e w5 ⟨rfl, rfl⟩
  go_wp2_with fail
  refine (K3.out _).mono ?_
  rintro e w6 ⟨rfl, rfl⟩
  go_wp2
  go_ret
  exact ⟨rfl, (Below.refl _ _).alloc (Nat.le_refl _) _⟩
end Go.Proofs.Ytcecbohaajocfaa
