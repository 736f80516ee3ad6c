/- The example's answers. -/
import Derived.Test.YtcnmfblbfpcghaaGreatDoorIslands
import Derived.Test.YtcnmfblbfpcghaaGreatDoorFed
import Derived.Test.YtcnmfblbfpcghaaGreatDoorExample
import Derived.Test.YtcnmfblbfpcghaaGreatDoorFmtB

set_option linter.unusedSimpArgs false
set_option linter.unusedVariables false
namespace Go.Proofs.YtcnmfblbfpcghaaGreatDoor
open Go.RowKit

/-- Roots, with a bound on the steps. -/
def rootF : Nat → List Nat → Nat → Nat
  | 0, _, x => x
  | n + 1, l, x => if l[x]?.getD x < x then rootF n l (l[x]?.getD x) else x
theorem rootOf_F : ∀ (n : Nat) (l : List Nat) (x : Nat), x ≤ n → rootOf l x = rootF n l x
  | 0, l, x, h => by
    obtain rfl : x = 0 := by omega
    rw [rootOf]
    simp [rootF]
  | n + 1, l, x, h => by
    rw [rootOf, rootF]
    split
    · rename_i h1
      exact rootOf_F n l _ (by omega)
    · rfl
def joinF (l : List Nat) (a b : Nat) : List Nat := l.set (max (rootF 3 l a) (rootF 3 l b)) (min (rootF 3 l a) (rootF 3 l b))
theorem joinAll_F (xs : List (LnkOf 3)) : ∀ f, joinAll f xs = xs.foldl (fun f x => joinF f x.1.a.toNat x.1.b.toNat) f := by
  induction xs with
  | nil => intro f; rfl
  | cons x xs ih =>
    intro f
    have h1 := x.2
    show joinAll (joinOf f x.1.a.toNat x.1.b.toNat) xs = _
    rw [ih]
    have : joinOf f x.1.a.toNat x.1.b.toNat = joinF f x.1.a.toNat x.1.b.toNat := by
      unfold joinOf joinF
      rw [rootOf_F 3 f x.1.a.toNat (by omega), rootOf_F 3 f x.1.b.toNat (by omega)]
    rw [this]
    rfl
def homeF (s : Stt) (f : List Nat) (i : Nat) : Int := if bit s.badBus i then -1 else (rootF 3 f i : Int)
def exL (b : Nat) : List (LnkOf 3) := [⟨⟨0, 1, 3, 400, 10, some ⟨b, 0, none⟩, 2, 2, exTrips⟩, ⟨by simp, by simp⟩, by simp, by simp⟩, ⟨⟨1, 2, 3, 400, 10, none, 0, 0, []⟩, ⟨by simp, by simp⟩, by simp, by simp⟩]
theorem exL_lnks (b : Nat) : (exP b).lnks = (exL (b + 1)).map (·.1) := rfl
theorem homeL_F (p : Plt) (s : Stt) (L : List (LnkOf 3)) : homeL p s L = [homeF s ((condTo s L p.ln).foldl (fun f x => joinF f x.1.a.toNat x.1.b.toNat) [0, 1, 2]) 0, homeF s ((condTo s L p.ln).foldl (fun f x => joinF f x.1.a.toNat x.1.b.toNat) [0, 1, 2]) 1, homeF s ((condTo s L p.ln).foldl (fun f x => joinF f x.1.a.toNat x.1.b.toNat) [0, 1, 2]) 2] := by
  unfold homeL homeTo
  rw [joinAll_F]
  have hr : List.range 3 = [0, 1, 2] := by decide
  rw [hr]
  simp only [List.map_cons, List.map_nil]
  rw [if_pos (by omega), if_pos (by omega), if_pos (by omega)]
  unfold homeAt homeF
  rw [rootOf_F 3 _ 0 (by omega), rootOf_F 3 _ 1 (by omega), rootOf_F 3 _ 2 (by omega)]
/-- The lists of a state of the example. -/
structure ExIs (s : Stt) (cl bl : List Bool) (bb : List Bool) : Prop where
  closed : s.closed.l = cl
  badLink : s.badLink.l = bl
  on : s.on.l = [true, true]
  badSource : s.badSource.l = [false, false]
  badBus : s.badBus.l = bb
theorem ex1_home (b : Nat) (s : Stt) (h : ExIs s [true, false] [false, false] [false, false, false]) : homeL (exP b) s (exL (b + 1)) = [0, 0, 2] := by
  have hc : condTo s (exL (b + 1)) (exP b).ln = [⟨⟨0, 1, 3, 400, 10, some ⟨b + 1, 0, none⟩, 2, 2, exTrips⟩, ⟨by simp, by simp⟩, by simp, by simp⟩] := by
    simp [condTo, conds, bit, exL, exP, h.closed, h.badLink, h.badBus]
    first | rfl | exact ⟨rfl, rfl⟩
  have hf : (condTo s (exL (b + 1)) (exP b).ln).foldl (fun f x => joinF f x.1.a.toNat x.1.b.toNat) [0, 1, 2] = [0, 0, 2] := by rw [hc]; rfl
  rw [homeL_F, hf]
  simp [homeF, bit, h.badBus, rootF]
theorem ex2_home (b : Nat) (s : Stt) (h : ExIs s [true, true] [false, false] [false, false, false]) : homeL (exP b) s (exL (b + 1)) = [0, 0, 0] := by
  have hc : condTo s (exL (b + 1)) (exP b).ln = [⟨⟨0, 1, 3, 400, 10, some ⟨b + 1, 0, none⟩, 2, 2, exTrips⟩, ⟨by simp, by simp⟩, by simp, by simp⟩, ⟨⟨1, 2, 3, 400, 10, none, 0, 0, []⟩, ⟨by simp, by simp⟩, by simp, by simp⟩] := by
    simp [condTo, conds, bit, exL, exP, h.closed, h.badLink, h.badBus]
    first | rfl | exact ⟨rfl, rfl⟩
  have hf : (condTo s (exL (b + 1)) (exP b).ln).foldl (fun f x => joinF f x.1.a.toNat x.1.b.toNat) [0, 1, 2] = [0, 0, 0] := by rw [hc]; rfl
  rw [homeL_F, hf]
  simp [homeF, bit, h.badBus, rootF]
theorem ex3_home (b : Nat) (s : Stt) (h : ExIs s [true, true] [true, false] [false, false, false]) : homeL (exP b) s (exL (b + 1)) = [0, 1, 1] := by
  have hc : condTo s (exL (b + 1)) (exP b).ln = [⟨⟨1, 2, 3, 400, 10, none, 0, 0, []⟩, ⟨by simp, by simp⟩, by simp, by simp⟩] := by
    simp [condTo, conds, bit, exL, exP, h.closed, h.badLink, h.badBus]
    first | rfl | exact ⟨rfl, rfl⟩
  have hf : (condTo s (exL (b + 1)) (exP b).ln).foldl (fun f x => joinF f x.1.a.toNat x.1.b.toNat) [0, 1, 2] = [0, 1, 1] := by rw [hc]; rfl
  rw [homeL_F, hf]
  simp [homeF, bit, h.badBus, rootF]
theorem ex4_home (b : Nat) (s : Stt) (h : ExIs s [true, true] [false, false] [false, true, false]) : homeL (exP b) s (exL (b + 1)) = [0, -1, 2] := by
  have hc : condTo s (exL (b + 1)) (exP b).ln = [] := by
    simp [condTo, conds, bit, exL, exP, h.closed, h.badLink, h.badBus]
    first | rfl | exact ⟨rfl, rfl⟩
  have hf : (condTo s (exL (b + 1)) (exP b).ln).foldl (fun f x => joinF f x.1.a.toNat x.1.b.toNat) [0, 1, 2] = [0, 1, 2] := by rw [hc]; rfl
  rw [homeL_F, hf]
  simp [homeF, bit, h.badBus, rootF]
theorem ex_feed (b : Nat) (s : Stt) {cl bl bb : List Bool} (h : ExIs s cl bl bb) (i j : Fin 3) (H : List Int) (h0 : H[0]? = some (i.val : Int)) (h2 : H[2]? = some (j.val : Int)) : feedTo (B := 3) s (exP b).srcs H (exP b).sn = [(0, i), (1, j)] := by
  simp [feedTo, feedAt, exP, exSrcs, bit, h.on, h.badSource, h0, h2, isl_some]
theorem ex_isles1 : islesOf (B := 3) [0, 0, 2] [(0, (0 : Fin 3)), (1, (2 : Fin 3))] = [([0, 1], [0]), ([2], [1])] := by rfl
theorem ex_isles3 : islesOf (B := 3) [0, 1, 1] [(0, (0 : Fin 3)), (1, (1 : Fin 3))] = [([0], [0]), ([1, 2], [1])] := by rfl
theorem ex_clash : clashOf exSrcs [(0, (0 : Fin 3)), (1, (0 : Fin 3))] [(0, (0 : Fin 3)), (1, (0 : Fin 3))] = [(0, 1)] := by rfl
theorem ex_live (b : Nat) (s : Stt) (H : List Int) (F : List (Nat × Fin 3)) (hH : homeL (exP b) s (exL (b + 1)) = H) (hF : feedTo (B := 3) s (exP b).srcs H (exP b).sn = F) : liveL (exP b) s (exL (b + 1)) = liveTo 3 H (fedOf F) 3 := by
  unfold liveL
  rw [hH, hF]
theorem ex_live1 : (fedTo exRcks (liveTo 3 [0, 0, 2] (fedOf [(0, (0 : Fin 3)), (1, (2 : Fin 3))]) 3) 1 2) = [true, false] := by rfl
theorem ex_live4 : (fedTo exRcks (liveTo 3 [0, -1, 2] (fedOf [(0, (0 : Fin 3)), (1, (2 : Fin 3))]) 3) 1 2) = [false, false] := by rfl
end Go.Proofs.YtcnmfblbfpcghaaGreatDoor

/- The example's text. -/
namespace Go.Proofs.YtcnmfblbfpcghaaGreatDoor
open Go.RowKit

def digF : Nat → Nat → List UInt8
  | 0, _ => []
  | n + 1, u => if u < 10 then [UInt8.ofNat (48 + u)] else digF n (u / 10) ++ [UInt8.ofNat (48 + u % 10)]
theorem dec_F : ∀ (n u : Nat), u < 10 ^ n → 0 < n → Lib.decDigits u = digF n u
  | 0, _, _, h => by omega
  | 1, u, h, _ => by
    rw [Lib.decDigits, digF]
    have : u < 10 := by simpa using h
    rw [dif_pos this, if_pos this]
  | n + 2, u, h, _ => by
    rw [Lib.decDigits, digF]
    split
    · rfl
    · rw [dec_F (n + 1) (u / 10) (by
        have h2 : u < 10 ^ (n + 1) * 10 := by rw [← Nat.pow_succ]; exact h
        exact Nat.div_lt_of_lt_mul (by rw [Nat.mul_comm]; exact h2)) (by omega)]
theorem itoa_F (n : Int) (h0 : 0 ≤ n) (h : n < 100000) : Lib.itoa n = digF 5 n.toNat := by
  unfold Lib.itoa
  rw [if_neg (by omega)]
  exact dec_F 5 n.toNat (by omega) (by omega)
theorem itoa_neg1 : Lib.itoa (-1) = [45, 49] := by
  unfold Lib.itoa
  rw [if_pos (by decide)]
  show 45 :: Lib.decDigits 1 = _
  rw [dec_F 1 1 (by decide) (by decide)]
  rfl
theorem ex_text (b : Nat) : formatL (exP b) = (([112, 108, 97, 110, 116, 32, 51, 10, 115, 111, 117, 114, 99, 101, 32, 48, 32, 103, 114, 105, 100, 32, 53, 48, 48, 32, 48, 32, 50, 48, 10, 115, 111, 117, 114].append [99, 101, 32, 50, 32, 103, 101, 110, 101, 114, 97, 116, 111, 114, 32, 51, 48, 48, 32, 48, 32, 52, 48, 10, 108, 105, 110, 107, 32, 48, 32, 49, 32, 98, 114]).append ([101, 97, 107, 101, 114, 32, 52, 48, 48, 32, 49, 48, 32, 49, 48, 48, 48, 58, 52, 48, 48, 32, 53, 48, 48, 48, 58, 53, 48, 10, 108, 105, 110, 107, 32].append [49, 32, 50, 32, 98, 114, 101, 97, 107, 101, 114, 32, 52, 48, 48, 32, 49, 48, 10, 114, 97, 99, 107, 32, 49, 32, 45, 49, 32, 49, 48, 48, 32, 49, 10])) := by
  simp only [formatL, headL, exP, exSrcs, exLnks, exRcks, exTrips, srcWs, lnkWs, rckWs, tripW, spacedL, List.map_cons, List.map_nil, List.flatMap_cons, List.flatMap_nil, itoa_neg1]
  repeat rw [itoa_F _ (by decide) (by decide)]
  decide
end Go.Proofs.YtcnmfblbfpcghaaGreatDoor
