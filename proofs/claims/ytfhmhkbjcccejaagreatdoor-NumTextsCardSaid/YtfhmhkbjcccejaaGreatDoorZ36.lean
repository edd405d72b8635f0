/- num.unitPow, and num.Pow of 1, 0 and -1. Powers of fractions. num.Pow of 1, 0 and -1. -/
import Derived.Test.YtfhmhkbjcccejaaGreatDoorZ35
import Derived.Test.YtfhmhkbjcccejaaGreatDoorZ30

namespace Go.Proofs.YtfhmhkbjcccejaaGreatDoor
open Go.RowKit

/-- -1, 0 or 1 to the power of n. -/
def unitT (t n : Int) : Int := if n = 0 then 1 else if n % 2 = 0 then max t (-t) else t

set_option maxRecDepth 100000 in
set_option maxHeartbeats 2000000 in
theorem unit_any (t n : Int) (w : World) (h : (-1 ≤ t ∧ t ≤ 1) ∧ 0 ≤ n) :
    Calls Tryz.prog 30 #[.agg #[.int .i64 t, .int .i64 1], .int .i64 n] w fun e w' => e = .returned (.agg #[.int .i64 (unitT t n), .int .i64 1]) ∧ Below w.heap.size w w' := by
  have HU : Hid (unitT t n = if n = 0 then 1 else if n % 2 = 0 then max t (-t) else t) := rfl
  have hneg : IntKind.i64.wrap (-t) = -t := IntWalk.i64_in _ (by omega)
  have hmod : n.tmod 2 = n % 2 := Int.tmod_eq_emod_of_nonneg h.2
  generalize unitT t n = u at HU ⊢
  by_cases h0 : n = 0
  · obtain rfl : u = 1 := by rw [HU.out, if_pos h0]
    subst h0
    clear HU h hmod
    go_enter Tryz.func30, Tryz.ntmps30
    go_wp2_with fail
    exact bodyPost_ret (v := .agg #[.int .i64 1, .int .i64 1]) (by simp [results, Tryz.results30, go_sem, *]) rfl ⟨rfl, by repeat (first | exact Below.refl _ _ | refine Below.setCell ?_ (by simp) _ | refine Below.alloc ?_ (Nat.le_refl _) _ | refine Below.alloc ?_ (by simp) _)⟩
  have hn0 : (n == 0) = false := by simpa using h0
  cases h2 : (n % 2 == 0)
  · have : ¬ n % 2 = 0 := by simpa using h2
    obtain rfl : u = t := by rw [HU.out, if_neg h0, if_neg this]
    clear HU h h0 this
    go_enter Tryz.func30, Tryz.ntmps30
    go_wp2_with fail
    exact bodyPost_ret (v := .agg #[.int .i64 u, .int .i64 1]) (by simp [results, Tryz.results30, go_sem, *]) rfl ⟨rfl, by repeat (first | exact Below.refl _ _ | refine Below.setCell ?_ (by simp) _ | refine Below.alloc ?_ (Nat.le_refl _) _ | refine Below.alloc ?_ (by simp) _)⟩
  · have : n % 2 = 0 := by simpa using h2
    obtain rfl : u = max t (-t) := by rw [HU.out, if_neg h0, if_pos this]
    clear HU h h0 this
    go_enter Tryz.func30, Tryz.ntmps30
    go_wp2_with fail
    exact bodyPost_ret (v := .agg #[.int .i64 (max t (-t)), .int .i64 1]) (by simp [results, Tryz.results30, go_sem, *]) rfl ⟨rfl, by repeat (first | exact Below.refl _ _ | refine Below.setCell ?_ (by simp) _ | refine Below.alloc ?_ (Nat.le_refl _) _ | refine Below.alloc ?_ (by simp) _)⟩

end Go.Proofs.YtfhmhkbjcccejaaGreatDoor

namespace Go.Proofs.YtfhmhkbjcccejaaGreatDoor
open Go.RowKit

theorem pow_pow_lt {a b p q i j : Nat} (h1 : a = 2 ^ p) (h2 : b = 2 ^ q) (h : p * i < q * j) : a ^ i < b ^ j := by
  subst h1 h2
  rw [← Nat.pow_mul, ← Nat.pow_mul]
  exact Nat.pow_lt_pow_right (by decide) h

theorem pow_small_lt {a k : Nat} (ha : a ≤ 1152921504606846976) (hk : k ≤ 60) : a ^ k < W ^ 1000 := by
  have h1 : a ^ k ≤ 1152921504606846976 ^ k := Nat.pow_le_pow_left ha k
  have h2 : 1152921504606846976 ^ k ≤ 1152921504606846976 ^ 60 := Nat.pow_le_pow_right (by decide) hk
  have e1 : (1152921504606846976 : Nat) = 2 ^ 60 := by decide
  have e2 : W = 2 ^ 32 := by rw [W_eq]
  have h3 : (1152921504606846976 : Nat) ^ 60 < W ^ 1000 := @pow_pow_lt 1152921504606846976 W 60 32 60 1000 e1 e2 (by decide)
  exact Nat.lt_of_le_of_lt (Nat.le_trans h1 h2) h3

theorem pow_lim {x : Rat} (h : vld x.num (x.den : Int) = true) {k : Nat} (hk : k ≤ 60) : (x ^ k).num.natAbs < W ^ 1000 ∧ (x ^ k).den < W ^ 1000 := by
  obtain ⟨a1, a2⟩ := vld_le h
  rw [Rat.num_pow, Rat.den_pow, Int.natAbs_pow]
  exact ⟨pow_small_lt a1 hk, pow_small_lt a2 hk⟩

theorem two_pow_lt {a n : Nat} (ha : 2 ≤ a) (hn : 61 ≤ n) : 1152921504606846976 < a ^ n := by
  have h1 : 2 ^ n ≤ a ^ n := Nat.pow_le_pow_left ha n
  have h2 : 2 ^ 61 ≤ 2 ^ n := Nat.pow_le_pow_right (by decide) hn
  have e : (2 : Nat) ^ 61 = 2305843009213693952 := by decide
  omega

theorem far_full {x : Rat} {n : Nat} (hx : 2 ≤ x.den ∨ 2 ≤ x.num.natAbs) (hn : 61 ≤ n) : ¬ Fits (x ^ n) := by
  rintro ⟨h1, h2⟩
  rw [Rat.num_pow, Int.natAbs_pow, MaxN_eq] at h1
  rw [Rat.den_pow, MaxN_eq] at h2
  rcases hx with h | h
  · have := two_pow_lt h hn; omega
  · have := two_pow_lt h hn; omega

theorem sq_pow (t : Int) (h : -1 ≤ t ∧ t ≤ 1) (n : Nat) (hn : n ≠ 0) : t ^ n = if n % 2 = 0 then max t (-t) else t := by
  have h3 : t = -1 ∨ t = 0 ∨ t = 1 := by omega
  have hd := Nat.div_add_mod n 2
  rcases h3 with rfl | rfl | rfl
  · have e : (-1 : Int) ^ n = (-1) ^ (n % 2) := by
      conv => lhs; rw [← hd]
      rw [Int.pow_add, Int.pow_mul]
      have : ((-1 : Int) ^ 2) = 1 := by decide
      rw [this, Int.one_pow, Int.one_mul]
    rw [e]
    rcases Nat.mod_two_eq_zero_or_one n with h0 | h0 <;> rw [h0] <;> decide
  · rw [Int.zero_pow hn]
    split <;> decide
  · rw [Int.one_pow]
    split <;> decide

theorem unitT_pow (t : Int) (h : -1 ≤ t ∧ t ≤ 1) (n : Nat) : unitT t (n : Int) = t ^ n := by
  unfold unitT
  by_cases h0 : n = 0
  · subst h0
    simp
  · rw [if_neg (by omega), sq_pow t h n h0]
    by_cases h2 : n % 2 = 0
    · rw [if_pos (by omega), if_pos h2]
    · rw [if_neg (by omega), if_neg h2]

theorem unit_fits {x : Rat} (hd : x.den = 1) (h : -1 ≤ x.num ∧ x.num ≤ 1) (n : Nat) : outT (x ^ n) = (unitT x.num (n : Int), 1, 0) := by
  have e1 : (x ^ n).num = unitT x.num (n : Int) := by rw [Rat.num_pow, unitT_pow _ h]
  have e2 : (x ^ n).den = 1 := by rw [Rat.den_pow, hd, Nat.one_pow]
  have hb : -1 ≤ unitT x.num (n : Int) ∧ unitT x.num (n : Int) ≤ 1 := by
    unfold unitT
    split
    · decide
    · split <;> omega
  have hf : Fits (x ^ n) := by
    refine ⟨?_, ?_⟩
    · rw [e1, MaxN_eq]; omega
    · rw [e2, MaxN_eq]; omega
  unfold outT
  rw [if_pos hf, e1, e2]
  rfl

/-- What num.Pow returns. -/
def powT (t l n : Int) : Int × Int × Int := if vld t l = false then (0, 0, 1) else if n < 0 ∨ 10000 < n then (0, 0, 6) else outT (fr t l ^ n.toNat)

end Go.Proofs.YtfhmhkbjcccejaaGreatDoor

namespace Go.Proofs.YtfhmhkbjcccejaaGreatDoor
open Go.RowKit

set_option maxRecDepth 100000 in
set_option maxHeartbeats 2000000 in
theorem pow_unit (t n : Int) (w : World) (h : vld t 1 = true) (hu : (-1 ≤ t ∧ t ≤ 1) ∧ 0 ≤ n) (g0 : decide (n < 0) = false) (g1 : decide (10000 < n) = false) (g2 : decide (-1 ≤ t) = true) (g3 : decide (t ≤ 1) = true) :
    Calls Tryz.prog 10 #[.agg #[.int .i64 t, .int .i64 1], .int .i64 n] w fun e w' => e = .returned (.tuple #[.agg #[.int .i64 (unitT t n), .int .i64 1], .int .i64 0]) ∧ Below w.heap.size w w' := by
  have HV : Hid (∀ wx, Calls Tryz.prog 11 #[.agg #[.int .i64 t, .int .i64 1]] wx fun e w' => e = .returned (.bool true) ∧ Below wx.heap.size wx w') := fun wx => by
    have := valid_any t 1 wx
    rw [h] at this
    exact this
  have HU : Hid (∀ wx, Calls Tryz.prog 30 #[.agg #[.int .i64 t, .int .i64 1], .int .i64 n] wx fun e w' => e = .returned (.agg #[.int .i64 (unitT t n), .int .i64 1]) ∧ Below wx.heap.size wx w') := fun wx => unit_any t n wx hu
  generalize unitT t n = u at HU ⊢
  clear h hu
  go_enter Tryz.func10, Tryz.ntmps10
  go_upto_region 1 with fail
  obtain ⟨X, hX, hwX, hz, k0, k1, hW⟩ := boxes2 w (.int .i64 t) (.int .i64 1) (.int .i64 0) (.int .i64 0)
  rw [hX]
  clear hX
  have H0 : Hid (w.heap.size < X.heap.size) := (by omega : w.heap.size < X.heap.size)
  clear hz
  go_wp2_with fail
  (with_reducible refine (HV.out X).mono ?_)
  rintro e w1 ⟨rfl, hB1⟩
  have l0 := (hB1.cell (p := ⟨w.heap.size, 0, none⟩) H0.out).trans k0
  have l1 := (hB1.cell (p := ⟨w.heap.size, 1, none⟩) H0.out).trans k1
  have R1 := Lib.hid hB1
  clear k0 k1 hB1
  go_wp2_with fail
  (with_reducible refine (HU.out w1).mono ?_)
  rintro e w2 ⟨rfl, hB2⟩
  have R2 := below_trans_same R1.out hB2
  have B2 := hwX.trans (R2.mono hwX.size)
  obtain ⟨⟨c1, c2, c3, c4⟩, c5, c6, c7⟩ := hW.keep R2
  clear l0 l1 hB2
  go_wp2_with fail
  exact bodyPost_ret (v := .tuple #[.agg #[.int .i64 u, .int .i64 1], .int .i64 0]) (by simp [results, Tryz.results10, go_sem, *]) rfl ⟨rfl, (B2.setCell (by show w.heap.size ≤ w.heap.size + 1; omega) _).setCell (by show w.heap.size ≤ w.heap.size + 1; omega) _⟩

end Go.Proofs.YtfhmhkbjcccejaaGreatDoor
