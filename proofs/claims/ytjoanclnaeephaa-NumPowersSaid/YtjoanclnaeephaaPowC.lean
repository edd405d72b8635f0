/- num.Pow on any arguments. -/
import Derived.Test.YtjoanclnaeephaaPowB
import Derived.Test.YtjoanclnaeephaaAwake
namespace Go.Proofs.Ytjoanclnaeephaa
open Go.RowKit

theorem powT_bad {t l n : Int} (h : vld t l = false) : powT t l n = (0, 0, 1) := by unfold powT; rw [if_pos h]
theorem powT_range {t l n : Int} (h : vld t l = true) (hn : n < 0 ∨ 10000 < n) : powT t l n = (0, 0, 6) := by
  unfold powT
  rw [if_neg (by rw [h]; decide), if_pos hn]
theorem powT_ok (x : Rat) (n : Nat) (h : vld x.num (x.den : Int) = true) (hn : n ≤ 10000) : powT x.num x.den n = outT (x ^ n) := by
  unfold powT
  rw [if_neg (by rw [h]; decide), if_neg (by omega), fr_of, Int.toNat_natCast]
theorem powT_far (x : Rat) (n : Nat) (h : vld x.num (x.den : Int) = true) (hn : n ≤ 10000) (h61 : 61 ≤ n) (hx : 2 ≤ x.den ∨ 2 ≤ x.num.natAbs) : powT x.num x.den n = (0, 0, 3) := by
  rw [powT_ok x n h hn]
  unfold outT
  rw [if_neg (far_full hx h61)]

theorem pow_any (t l n : Int) (w : World) :
    Calls Try.prog 12 #[.agg #[.int .i64 t, .int .i64 l], .int .i64 n] w fun e w' => e = .returned (val3 (powT t l n)) ∧ Below w.heap.size w w' := by
  cases h : vld t l
  · rw [powT_bad h]
    exact pow_bad t l n w h
  by_cases h0 : n < 0
  · rw [powT_range h (Or.inl h0)]
    exact pow_neg t l n w h (decide_eq_true h0)
  by_cases h1 : 10000 < n
  · rw [powT_range h (Or.inr h1)]
    exact pow_far t l n w h (decide_eq_false h0) (decide_eq_true h1)
  have g0 := decide_eq_false h0
  have g1 := decide_eq_false h1
  obtain ⟨x, rfl, rfl, -⟩ := vld_rat h
  obtain ⟨k, rfl⟩ := Int.eq_ofNat_of_zero_le (by omega : 0 ≤ n)
  have hk : k ≤ 10000 := by omega
  have hx0 := x.den_nz
  have hout : k ≤ 60 → val3 (powT x.num x.den k) = outN (x ^ k) := fun _ => by rw [powT_ok x k h hk, outN_val]
  by_cases h2 : x.den = 1
  · have g2 : ((x.den : Int) == 1) = true := by rw [h2]; rfl
    by_cases h3 : -1 ≤ x.num
    · have g3 := decide_eq_true h3
      by_cases h4 : x.num ≤ 1
      · have g4 := decide_eq_true h4
        rw [powT_ok x k h hk, unit_fits h2 ⟨h3, h4⟩ k]
        rw [h2] at h ⊢
        exact pow_unit x.num k w h ⟨⟨h3, h4⟩, by omega⟩ g0 g1 g3 g4
      · have g4 := decide_eq_false h4
        by_cases h5 : 60 < (k : Int)
        · rw [powT_far x k h hk (by omega) (by omega)]
          exact pow_full3 _ _ _ w h g0 g1 g2 g3 g4 (decide_eq_true h5)
        · rw [hout (by omega)]
          exact pow_smallC x (fun k => x ^ k) k w (Rat.pow_zero x) (fun k => Rat.pow_succ x k) (fun j hj => pow_lim h hj) h (by omega) g0 g1 g2 g3 g4 (decide_eq_false h5)
    · have g3 := decide_eq_false h3
      by_cases h5 : 60 < (k : Int)
      · rw [powT_far x k h hk (by omega) (by omega)]
        exact pow_full2 _ _ _ w h g0 g1 g2 g3 (decide_eq_true h5)
      · rw [hout (by omega)]
        exact pow_smallB x (fun k => x ^ k) k w (Rat.pow_zero x) (fun k => Rat.pow_succ x k) (fun j hj => pow_lim h hj) h (by omega) g0 g1 g2 g3 (decide_eq_false h5)
  · have g2 : ((x.den : Int) == 1) = false := by rw [beq_eq_false_iff_ne]; omega
    by_cases h5 : 60 < (k : Int)
    · rw [powT_far x k h hk (by omega) (by omega)]
      exact pow_full1 _ _ _ w h g0 g1 g2 (decide_eq_true h5)
    · rw [hout (by omega)]
      exact pow_smallA x (fun k => x ^ k) k w (Rat.pow_zero x) (fun k => Rat.pow_succ x k) (fun j hj => pow_lim h hj) h (by omega) g0 g1 g2 (decide_eq_false h5)

theorem pow_awake : powT (-2) 3 3 = (-8, 27, 0) := by decide +kernel

theorem awake_any (w : World) : Calls Try.prog 13 #[] w fun e w' => e = .returned (.bool true) ∧ Below w.heap.size w w' :=
  awake_of w (Lib.hid fun wx => by
    have := pow_any (-2) 3 3 wx
    rw [pow_awake] at this
    exact this)

end Go.Proofs.Ytjoanclnaeephaa
