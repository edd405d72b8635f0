/- Fractions of the reference: product, quotient, sum. -/
import Derived.Test.YtfhmhkbjcccejaaGreatDoorZ30

namespace Go.Proofs.YtfhmhkbjcccejaaGreatDoor
open Go.RowKit

theorem den_bound (x : Rat) {K : Nat} (h : x.den < Bs ^ K) : ((x.den : Int)).natAbs < Bs ^ K := by rw [Int.natAbs_natCast]; exact h
theorem den_nz2 (x y : Rat) : (x.den : Int) * (y.den : Int) ≠ 0 := Int.mul_ne_zero (by have := x.den_nz; omega) (by have := y.den_nz; omega)
theorem mul_bound {a b : Int} {K : Nat} (ha : a.natAbs < Bs ^ K) (hb : b.natAbs < Bs ^ K) : (a * b).natAbs < Bs ^ (2 * K) := by
  rw [Int.natAbs_mul, Nat.two_mul, Nat.pow_add]
  exact Nat.mul_lt_mul'' ha hb
theorem add_bound {a b : Int} {K : Nat} (ha : a.natAbs < Bs ^ K) (hb : b.natAbs < Bs ^ K) : (a + b).natAbs < Bs ^ (K + 1) := by
  have h : (a + b).natAbs ≤ a.natAbs + b.natAbs := Int.natAbs_add_le _ _
  have e : Bs ^ (K + 1) = Bs ^ K * Bs := Nat.pow_succ ..
  have e2 : Bs ^ K * 2 ≤ Bs ^ K * Bs := Nat.mul_le_mul_left _ (by decide)
  omega
theorem qt_eq (z z' : Int) : qt z z' = Rat.divInt z z' := by
  unfold qt
  cases z' with
  | ofNat n =>
    rw [if_neg (by simp)]
    rfl
  | negSucc n =>
    rw [if_pos (Int.negSucc_lt_zero n)]
    simp [Rat.divInt, mkRat, Rat.normalize_eq]
theorem qt_div (x y : Rat) : qt (x.num * (y.den : Int)) ((x.den : Int) * y.num) = x / y := by
  rw [qt_eq, Rat.div_def, Rat.inv_def]
  rw [← Rat.divInt_mul_divInt, Rat.num_divInt_den]
/-- What the sizes of a sum, a product and a quotient are. -/
theorem add_size {x y : Rat} {K : Nat} (hx : x.num.natAbs < Bs ^ K ∧ x.den < Bs ^ K) (hy : y.num.natAbs < Bs ^ K ∧ y.den < Bs ^ K) : (x + y).num.natAbs < Bs ^ (2 * K + 1) ∧ (x + y).den < Bs ^ (2 * K + 1) := by
  have hd := den_bound x hx.2
  have hd' := den_bound y hy.2
  have h := qt_le (x.num * (y.den : Int) + y.num * (x.den : Int)) _ (den_nz2 x y)
  rw [qt_add] at h
  exact ⟨Nat.lt_of_le_of_lt h.1 (add_bound (mul_bound hx.1 hd') (mul_bound hy.1 hd)), Nat.lt_of_le_of_lt h.2 (Nat.lt_of_lt_of_le (mul_bound hd hd') (Nat.pow_le_pow_right (by decide) (by omega)))⟩

end Go.Proofs.YtfhmhkbjcccejaaGreatDoor
