/- The four operations on valid numbers. -/
import Derived.Test.YtjoanclnaeephaaGreatNum3
namespace Go.Proofs.YtjoanclnaeephaaGreat
open Go.RowKit

theorem norm_le (n : Int) (d : Nat) (h : d ≠ 0) : (Rat.normalize n d h).num.natAbs ≤ n.natAbs ∧ (Rat.normalize n d h).den ≤ d := by
  rw [Rat.normalize_eq]
  exact ⟨Int.natAbs_ediv_le_natAbs _ _, Nat.div_le_self _ _⟩

theorem vld_le {x : Rat} (h : vld x.num (x.den : Int) = true) : x.num.natAbs ≤ 1152921504606846976 ∧ x.den ≤ 1152921504606846976 := by
  simp [vld] at h
  omega

theorem W_pow_le {i j : Nat} (h : i ≤ j) : W ^ i ≤ W ^ j := Nat.pow_le_pow_right (by rw [W_eq]; decide) h
theorem W4_le : W ^ 4 ≤ W ^ 1000 := @W_pow_le 4 1000 (by decide)

theorem small_pow {k : Nat} (h : k ≤ 2658455991569831745807614120560689152) : k < W ^ 1000 :=
  Nat.lt_of_lt_of_le (show k < W ^ 4 from Nat.lt_of_le_of_lt h (by show _ < (4294967296 : Nat) ^ 4; decide)) W4_le

theorem mul_le {a b : Nat} (ha : a ≤ 1152921504606846976) (hb : b ≤ 1152921504606846976) : a * b ≤ 1329227995784915872903807060280344576 :=
  Nat.le_trans (Nat.mul_le_mul ha hb) (by decide)

theorem add_lim {x y : Rat} (h : vld x.num (x.den : Int) = true) (h' : vld y.num (y.den : Int) = true) : (x + y).num.natAbs < W ^ 1000 ∧ (x + y).den < W ^ 1000 := by
  obtain ⟨a1, a2⟩ := vld_le h
  obtain ⟨b1, b2⟩ := vld_le h'
  rw [Rat.add_def]
  have k := norm_le (x.num * y.den + y.num * x.den) (x.den * y.den) (Nat.mul_ne_zero x.den_nz y.den_nz)
  have e1 : (x.num * (y.den : Int)).natAbs ≤ 1329227995784915872903807060280344576 := by rw [Int.natAbs_mul, Int.natAbs_natCast]; exact mul_le a1 b2
  have e2 : (y.num * (x.den : Int)).natAbs ≤ 1329227995784915872903807060280344576 := by rw [Int.natAbs_mul, Int.natAbs_natCast]; exact mul_le b1 a2
  have e3 := Int.natAbs_add_le (x.num * (y.den : Int)) (y.num * (x.den : Int))
  have e4 := mul_le a2 b2
  exact ⟨small_pow (Nat.le_trans k.1 (Nat.le_trans e3 (by omega))), small_pow (Nat.le_trans k.2 (Nat.le_trans e4 (by decide)))⟩

theorem sub_lim {x y : Rat} (h : vld x.num (x.den : Int) = true) (h' : vld y.num (y.den : Int) = true) : (x - y).num.natAbs < W ^ 1000 ∧ (x - y).den < W ^ 1000 := by
  obtain ⟨a1, a2⟩ := vld_le h
  obtain ⟨b1, b2⟩ := vld_le h'
  rw [Rat.sub_def]
  have k := norm_le (x.num * y.den - y.num * x.den) (x.den * y.den) (Nat.mul_ne_zero x.den_nz y.den_nz)
  have e1 : (x.num * (y.den : Int)).natAbs ≤ 1329227995784915872903807060280344576 := by rw [Int.natAbs_mul, Int.natAbs_natCast]; exact mul_le a1 b2
  have e2 : (y.num * (x.den : Int)).natAbs ≤ 1329227995784915872903807060280344576 := by rw [Int.natAbs_mul, Int.natAbs_natCast]; exact mul_le b1 a2
  have e3 := Int.natAbs_sub_le (x.num * (y.den : Int)) (y.num * (x.den : Int))
  have e4 := mul_le a2 b2
  exact ⟨small_pow (Nat.le_trans k.1 (Nat.le_trans e3 (by omega))), small_pow (Nat.le_trans k.2 (Nat.le_trans e4 (by decide)))⟩

theorem mul_lim {x y : Rat} (h1 : x.num.natAbs ≤ 1152921504606846976) (h2 : x.den ≤ 1152921504606846976) (h3 : y.num.natAbs ≤ 1152921504606846976) (h4 : y.den ≤ 1152921504606846976) : (x * y).num.natAbs < W ^ 1000 ∧ (x * y).den < W ^ 1000 := by
  rw [Rat.mul_def]
  have k := norm_le (x.num * y.num) (x.den * y.den) (Nat.mul_ne_zero x.den_nz y.den_nz)
  have e1 : (x.num * y.num).natAbs ≤ 1329227995784915872903807060280344576 := by rw [Int.natAbs_mul]; exact mul_le h1 h3
  have e4 := mul_le h2 h4
  exact ⟨small_pow (Nat.le_trans k.1 (Nat.le_trans e1 (by decide))), small_pow (Nat.le_trans k.2 (Nat.le_trans e4 (by decide)))⟩

theorem quo_lim {x y : Rat} (h : vld x.num (x.den : Int) = true) (h' : vld y.num (y.den : Int) = true) (hy : y.num ≠ 0) : (x / y).num.natAbs < W ^ 1000 ∧ (x / y).den < W ^ 1000 := by
  obtain ⟨a1, a2⟩ := vld_le h
  obtain ⟨b1, b2⟩ := vld_le h'
  rw [Rat.div_def]
  have k := inv_num y hy
  exact mul_lim a1 a2 (by omega) (by omega)

theorem len2 {w : World} {A : Option Addr} {n c x : Nat} (h : D w (.slice A n c) x) (hx : x ≤ 1152921504606846976) : n ≤ 2 := h.len (Nat.lt_of_le_of_lt hx (by show _ < (4294967296 : Nat) ^ 2; decide))

theorem addN_ok (x y : Rat) (w : World) (h : vld x.num (x.den : Int) = true) (h' : vld y.num (y.den : Int) = true) :
    Calls Tryz.prog 17 #[.agg #[.int .i64 x.num, .int .i64 (x.den : Int)], .agg #[.int .i64 y.num, .int .i64 (y.den : Int)], .func (.func 18) #[] #[]] w fun e w' => e = .returned (outN (x + y)) ∧ Below w.heap.size w w' := by
  obtain ⟨a1, a2⟩ := vld_le h
  obtain ⟨b1, b2⟩ := vld_le h'
  obtain ⟨z1, z2⟩ := add_lim h h'
  refine operate_55 x y _ w h h' z1 z2 (Lib.hid fun wx A n c B m d A' n' c' B' m' d' k1 k2 k3 k4 => ?_)
  have e1 := len2 k1 a1
  have e2 := len2 k2 a2
  have e3 := len2 k3 b1
  have e4 := len2 k4 b2
  exact addR_any _ _ A B A' B' n c m d n' c' m' d' x y wx ⟨rfl, k1, k2⟩ ⟨rfl, k3, k4⟩ (by omega) (by omega) (by omega) (by omega) (by omega)

theorem subN_ok (x y : Rat) (w : World) (h : vld x.num (x.den : Int) = true) (h' : vld y.num (y.den : Int) = true) :
    Calls Tryz.prog 17 #[.agg #[.int .i64 x.num, .int .i64 (x.den : Int)], .agg #[.int .i64 y.num, .int .i64 (y.den : Int)], .func (.func 23) #[] #[]] w fun e w' => e = .returned (outN (x - y)) ∧ Below w.heap.size w w' := by
  obtain ⟨a1, a2⟩ := vld_le h
  obtain ⟨b1, b2⟩ := vld_le h'
  obtain ⟨z1, z2⟩ := sub_lim h h'
  refine operate_56 x y _ w h h' z1 z2 (Lib.hid fun wx A n c B m d A' n' c' B' m' d' k1 k2 k3 k4 => ?_)
  have e1 := len2 k1 a1
  have e2 := len2 k2 a2
  have e3 := len2 k3 b1
  have e4 := len2 k4 b2
  exact subR_any _ _ A B A' B' n c m d n' c' m' d' x y wx ⟨rfl, k1, k2⟩ ⟨rfl, k3, k4⟩ (by omega) (by omega) (by omega) (by omega) (by omega)

theorem mulN_ok (x y : Rat) (w : World) (h : vld x.num (x.den : Int) = true) (h' : vld y.num (y.den : Int) = true) :
    Calls Tryz.prog 17 #[.agg #[.int .i64 x.num, .int .i64 (x.den : Int)], .agg #[.int .i64 y.num, .int .i64 (y.den : Int)], .func (.func 25) #[] #[]] w fun e w' => e = .returned (outN (x * y)) ∧ Below w.heap.size w w' := by
  obtain ⟨a1, a2⟩ := vld_le h
  obtain ⟨b1, b2⟩ := vld_le h'
  obtain ⟨z1, z2⟩ := mul_lim a1 a2 b1 b2
  refine operate_38 x y _ w h h' z1 z2 (Lib.hid fun wx A n c B m d A' n' c' B' m' d' k1 k2 k3 k4 => ?_)
  have e1 := len2 k1 a1
  have e2 := len2 k2 a2
  have e3 := len2 k3 b1
  have e4 := len2 k4 b2
  exact mulR_any _ _ A B A' B' n c m d n' c' m' d' x y wx ⟨rfl, k1, k2⟩ ⟨rfl, k3, k4⟩ (by omega) (by omega) (by omega) (by omega) (by omega) (by omega)

theorem quoN_ok (x y : Rat) (w : World) (h : vld x.num (x.den : Int) = true) (h' : vld y.num (y.den : Int) = true) (hy : y.num ≠ 0) :
    Calls Tryz.prog 17 #[.agg #[.int .i64 x.num, .int .i64 (x.den : Int)], .agg #[.int .i64 y.num, .int .i64 (y.den : Int)], .func (.func 27) #[] #[]] w fun e w' => e = .returned (outN (x / y)) ∧ Below w.heap.size w w' := by
  obtain ⟨a1, a2⟩ := vld_le h
  obtain ⟨b1, b2⟩ := vld_le h'
  obtain ⟨z1, z2⟩ := quo_lim h h' hy
  refine operate_57 x y _ w h h' z1 z2 (Lib.hid fun wx A n c B m d A' n' c' B' m' d' k1 k2 k3 k4 => ?_)
  have e1 := len2 k1 a1
  have e2 := len2 k2 a2
  have e3 := len2 k3 b1
  have e4 := len2 k4 b2
  exact quoR_any _ _ A B A' B' n c m d n' c' m' d' x y wx ⟨rfl, k1, k2⟩ ⟨rfl, k3, k4⟩ (by omega) (by omega) (by omega) (by omega) (by omega) (by omega) hy

end Go.Proofs.YtjoanclnaeephaaGreat
