/- Powers of fractions. -/
import Derived.Test.YtjoanclnaeephaaNum5
import Derived.Test.YtjoanclnaeephaaNum9
namespace Go.Proofs.Ytjoanclnaeephaa
open Go.RowKit

theorem pow_pow_lt {a b p q i j : Nat} (h1 : a = 2 ^ p) (h2 : b = 2 ^ q) (h : p * i < q * j) : a ^ i < b ^ j := by
  subst h1 h2
  rw [← Nat.pow_mul, ← Nat.pow_mul]
  exact Nat.pow_lt_pow_right (by decide) h

theorem pow_small_lt {a k : Nat} (ha : a ≤ 1152921504606846976) (hk : k ≤ 60) : a ^ k < W ^ 1000 := by
  have h1 : a ^ k ≤ 1152921504606846976 ^ k := Nat.pow_le_pow_left ha k
  have h2 : 1152921504606846976 ^ k ≤ 1152921504606846976 ^ 60 := Nat.pow_le_pow_right (by decide) hk
  have e1 : (1152921504606846976 : Nat) = 2 ^ 60 := by decide
  have e2 : W = 2 ^ 32 := by rw [W_eq]
  have h3 : (1152921504606846976 : Nat) ^ 60 < W ^ 1000 := @pow_pow_lt 1152921504606846976 W 60 32 60 1000 e1 e2 (by decide)
  exact Nat.lt_of_le_of_lt (Nat.le_trans h1 h2) h3

theorem pow_lim {x : Rat} (h : vld x.num (x.den : Int) = true) {k : Nat} (hk : k ≤ 60) : (x ^ k).num.natAbs < W ^ 1000 ∧ (x ^ k).den < W ^ 1000 := by
  obtain ⟨a1, a2⟩ := vld_le h
  rw [Rat.num_pow, Rat.den_pow, Int.natAbs_pow]
  exact ⟨pow_small_lt a1 hk, pow_small_lt a2 hk⟩

theorem two_pow_lt {a n : Nat} (ha : 2 ≤ a) (hn : 61 ≤ n) : 1152921504606846976 < a ^ n := by
  have h1 : 2 ^ n ≤ a ^ n := Nat.pow_le_pow_left ha n
  have h2 : 2 ^ 61 ≤ 2 ^ n := Nat.pow_le_pow_right (by decide) hn
  have e : (2 : Nat) ^ 61 = 2305843009213693952 := by decide
  omega

theorem far_full {x : Rat} {n : Nat} (hx : 2 ≤ x.den ∨ 2 ≤ x.num.natAbs) (hn : 61 ≤ n) : ¬ Fits (x ^ n) := by
  rintro ⟨h1, h2⟩
  rw [Rat.num_pow, Int.natAbs_pow, MaxN_eq] at h1
  rw [Rat.den_pow, MaxN_eq] at h2
  rcases hx with h | h
  · have := two_pow_lt h hn; omega
  · have := two_pow_lt h hn; omega

theorem sq_pow (t : Int) (h : -1 ≤ t ∧ t ≤ 1) (n : Nat) (hn : n ≠ 0) : t ^ n = if n % 2 = 0 then max t (-t) else t := by
  have h3 : t = -1 ∨ t = 0 ∨ t = 1 := by omega
  have hd := Nat.div_add_mod n 2
  rcases h3 with rfl | rfl | rfl
  · have e : (-1 : Int) ^ n = (-1) ^ (n % 2) := by
      conv => lhs; rw [← hd]
      rw [Int.pow_add, Int.pow_mul]
      have : ((-1 : Int) ^ 2) = 1 := by decide
      rw [this, Int.one_pow, Int.one_mul]
    rw [e]
    rcases Nat.mod_two_eq_zero_or_one n with h0 | h0 <;> rw [h0] <;> decide
  · rw [Int.zero_pow hn]
    split <;> decide
  · rw [Int.one_pow]
    split <;> decide

theorem unitT_pow (t : Int) (h : -1 ≤ t ∧ t ≤ 1) (n : Nat) : unitT t (n : Int) = t ^ n := by
  unfold unitT
  by_cases h0 : n = 0
  · subst h0
    simp
  · rw [if_neg (by omega), sq_pow t h n h0]
    by_cases h2 : n % 2 = 0
    · rw [if_pos (by omega), if_pos h2]
    · rw [if_neg (by omega), if_neg h2]

theorem unit_fits {x : Rat} (hd : x.den = 1) (h : -1 ≤ x.num ∧ x.num ≤ 1) (n : Nat) : outT (x ^ n) = (unitT x.num (n : Int), 1, 0) := by
  have e1 : (x ^ n).num = unitT x.num (n : Int) := by rw [Rat.num_pow, unitT_pow _ h]
  have e2 : (x ^ n).den = 1 := by rw [Rat.den_pow, hd, Nat.one_pow]
  have hb : -1 ≤ unitT x.num (n : Int) ∧ unitT x.num (n : Int) ≤ 1 := by
    unfold unitT
    split
    · decide
    · split <;> omega
  have hf : Fits (x ^ n) := by
    refine ⟨?_, ?_⟩
    · rw [e1, MaxN_eq]; omega
    · rw [e2, MaxN_eq]; omega
  unfold outT
  rw [if_pos hf, e1, e2]
  rfl

/-- What num.Pow returns. -/
def powT (t l n : Int) : Int × Int × Int := if vld t l = false then (0, 0, 1) else if n < 0 ∨ 10000 < n then (0, 0, 6) else outT (fr t l ^ n.toNat)

end Go.Proofs.Ytjoanclnaeephaa
