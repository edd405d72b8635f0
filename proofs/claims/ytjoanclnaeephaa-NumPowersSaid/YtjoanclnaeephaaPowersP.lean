/- diceboxlaw01.NumPowers returns true for every number and all exponents: the contract. -/
import Derived.Test.YtjoanclnaeephaaLawP
namespace Go.Proofs.Ytjoanclnaeephaa
open Go.RowKit

theorem powT_zero {t l n : Int} (h : (powT t l n).2.2 = 0) : ∃ (x : Rat) (k : Nat), t = x.num ∧ l = (x.den : Int) ∧ n = (k : Int) ∧ k ≤ 10000 ∧ vld x.num (x.den : Int) = true ∧ Fits (x ^ k) ∧ powT t l n = ((x ^ k).num, ((x ^ k).den : Int), 0) := by
  cases h1 : vld t l
  · rw [powT_bad h1] at h
    cases h
  by_cases h2 : n < 0 ∨ 10000 < n
  · rw [powT_range h1 h2] at h
    cases h
  obtain ⟨x, rfl, rfl, -⟩ := vld_rat h1
  obtain ⟨k, rfl⟩ := Int.eq_ofNat_of_zero_le (by omega : 0 ≤ n)
  have hk : k ≤ 10000 := by omega
  rw [powT_ok x k h1 hk] at h ⊢
  obtain ⟨k1, k2⟩ := outT_zero h
  exact ⟨x, k, rfl, rfl, rfl, hk, h1, k1, k2⟩

theorem rat_pow_add (x : Rat) (j : Nat) : ∀ k : Nat, x ^ j * x ^ k = x ^ (j + k)
  | 0 => by rw [Rat.pow_zero, Rat.mul_one, Nat.add_zero]
  | k + 1 => by rw [Rat.pow_succ, ← Rat.mul_assoc, rat_pow_add x j k, ← Rat.pow_succ, Nat.add_assoc]

theorem powers_any (ta la m n : Int) (w : World) :
    Calls Try.prog 4 #[.agg #[.int .i64 ta, .int .i64 la], .int .i64 m, .int .i64 n] w fun e w' => e = .returned (.bool true) ∧ Below w.heap.size w w' := by
  refine powers_walk ta la m n _ _ _ _ _ _ _ _ _ w (Lib.hid fun wx => powRt ta la m wx) (Lib.hid fun wx => powRt ta la n wx) ?_ (Lib.hid fun wx => powRt ta la (m + n) wx) ?_
  · intro h1 h2
    obtain ⟨x, j, -, -, rfl, hj, -⟩ := powT_zero h1
    obtain ⟨y, k, -, -, rfl, hk, -⟩ := powT_zero h2
    omega
  · intro h1 h2 hs wx
    obtain ⟨x, j, e1, e2, rfl, hj, hv, hf, ej⟩ := powT_zero h1
    obtain ⟨y, k, e3, e4, rfl, hk, hv', hf', ek⟩ := powT_zero h2
    have exy : x = y := rat_eq (by rw [← e1, ← e3]) (by rw [← e2, ← e4])
    subst exy
    rw [ej, ek]
    have h3 : powT ta la ((j : Int) + (k : Int)) = resT (fun x y => x * y) (x ^ j).num ((x ^ j).den : Int) (x ^ k).num ((x ^ k).den : Int) := by
      rw [resT_ok _ _ (vld_fits hf) (vld_fits hf'), e1, e2, show ((j : Int) + (k : Int)) = ((j + k : Nat) : Int) from by omega, powT_ok x (j + k) hv (by omega), rat_pow_add]
    rw [h3]
    exact mulRt _ _ _ _ wx

end Go.Proofs.Ytjoanclnaeephaa
