/- num.unitPow, and num.Pow of 1, 0 and -1. -/
import Derived.Test.YtjoanclnaeephaaNum7
namespace Go.Proofs.Ytjoanclnaeephaa
open Go.RowKit

/-- -1, 0 or 1 to the power of n. -/
def unitT (t n : Int) : Int := if n = 0 then 1 else if n % 2 = 0 then max t (-t) else t

set_option maxRecDepth 100000 in
set_option maxHeartbeats 2000000 in
theorem unit_any (t n : Int) (w : World) (h : (-1 ≤ t ∧ t ≤ 1) ∧ 0 ≤ n) :
    Calls Try.prog 36 #[.agg #[.int .i64 t, .int .i64 1], .int .i64 n] w fun e w' => e = .returned (.agg #[.int .i64 (unitT t n), .int .i64 1]) ∧ Below w.heap.size w w' := by
  have HU : Hid (unitT t n = if n = 0 then 1 else if n % 2 = 0 then max t (-t) else t) := rfl
  have hneg : IntKind.i64.wrap (-t) = -t := IntWalk.i64_in _ (by omega)
  have hmod : n.tmod 2 = n % 2 := Int.tmod_eq_emod_of_nonneg h.2
  generalize unitT t n = u at HU ⊢
  by_cases h0 : n = 0
  · obtain rfl : u = 1 := by rw [HU.out, if_pos h0]
    subst h0
    clear HU h hmod
    go_enter Try.func36, Try.ntmps36
    go_wp2_with fail
    exact bodyPost_ret (v := .agg #[.int .i64 1, .int .i64 1]) (by simp [results, Try.results36, go_sem, *]) rfl ⟨rfl, by repeat (first | exact Below.refl _ _ | refine Below.setCell ?_ (by simp) _ | refine Below.alloc ?_ (Nat.le_refl _) _ | refine Below.alloc ?_ (by simp) _)⟩
  have hn0 : (n == 0) = false := by simpa using h0
  cases h2 : (n % 2 == 0)
  · have : ¬ n % 2 = 0 := by simpa using h2
    obtain rfl : u = t := by rw [HU.out, if_neg h0, if_neg this]
    clear HU h h0 this
    go_enter Try.func36, Try.ntmps36
    go_wp2_with fail
    exact bodyPost_ret (v := .agg #[.int .i64 u, .int .i64 1]) (by simp [results, Try.results36, go_sem, *]) rfl ⟨rfl, by repeat (first | exact Below.refl _ _ | refine Below.setCell ?_ (by simp) _ | refine Below.alloc ?_ (Nat.le_refl _) _ | refine Below.alloc ?_ (by simp) _)⟩
  · have : n % 2 = 0 := by simpa using h2
    obtain rfl : u = max t (-t) := by rw [HU.out, if_neg h0, if_pos this]
    clear HU h h0 this
    go_enter Try.func36, Try.ntmps36
    go_wp2_with fail
    exact bodyPost_ret (v := .agg #[.int .i64 (max t (-t)), .int .i64 1]) (by simp [results, Try.results36, go_sem, *]) rfl ⟨rfl, by repeat (first | exact Below.refl _ _ | refine Below.setCell ?_ (by simp) _ | refine Below.alloc ?_ (Nat.le_refl _) _ | refine Below.alloc ?_ (by simp) _)⟩

end Go.Proofs.Ytjoanclnaeephaa
