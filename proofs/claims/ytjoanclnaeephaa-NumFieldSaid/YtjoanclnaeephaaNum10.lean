/- num.Pow of 1, 0 and -1. -/
import Derived.Test.YtjoanclnaeephaaNum9
namespace Go.Proofs.Ytjoanclnaeephaa
open Go.RowKit

set_option maxRecDepth 100000 in
set_option maxHeartbeats 2000000 in
theorem pow_unit (t n : Int) (w : World) (h : vld t 1 = true) (hu : (-1 ≤ t ∧ t ≤ 1) ∧ 0 ≤ n) (g0 : decide (n < 0) = false) (g1 : decide (10000 < n) = false) (g2 : decide (-1 ≤ t) = true) (g3 : decide (t ≤ 1) = true) :
    Calls Try.prog 12 #[.agg #[.int .i64 t, .int .i64 1], .int .i64 n] w fun e w' => e = .returned (.tuple #[.agg #[.int .i64 (unitT t n), .int .i64 1], .int .i64 0]) ∧ Below w.heap.size w w' := by
  have HV : Hid (∀ wx, Calls Try.prog 35 #[.agg #[.int .i64 t, .int .i64 1]] wx fun e w' => e = .returned (.bool true) ∧ Below wx.heap.size wx w') := fun wx => by
    have := valid_any t 1 wx
    rw [h] at this
    exact this
  have HU : Hid (∀ wx, Calls Try.prog 36 #[.agg #[.int .i64 t, .int .i64 1], .int .i64 n] wx fun e w' => e = .returned (.agg #[.int .i64 (unitT t n), .int .i64 1]) ∧ Below wx.heap.size wx w') := fun wx => unit_any t n wx hu
  generalize unitT t n = u at HU ⊢
  clear h hu
  go_enter Try.func12, Try.ntmps12
  go_upto_region 1 with fail
  obtain ⟨X, hX, hwX, hz, k0, k1, hW⟩ := boxes2 w (.int .i64 t) (.int .i64 1) (.int .i64 0) (.int .i64 0)
  rw [hX]
  clear hX
  have H0 : Hid (w.heap.size < X.heap.size) := (by omega : w.heap.size < X.heap.size)
  clear hz
  go_wp2_with fail
  (with_reducible refine (HV.out X).mono ?_)
  rintro e w1 ⟨rfl, hB1⟩
  have l0 := (hB1.cell (p := ⟨w.heap.size, 0, none⟩) H0.out).trans k0
  have l1 := (hB1.cell (p := ⟨w.heap.size, 1, none⟩) H0.out).trans k1
  have R1 := Lib.hid hB1
  clear k0 k1 hB1
  go_wp2_with fail
  (with_reducible refine (HU.out w1).mono ?_)
  rintro e w2 ⟨rfl, hB2⟩
  have R2 := below_trans_same R1.out hB2
  have B2 := hwX.trans (R2.mono hwX.size)
  obtain ⟨⟨c1, c2, c3, c4⟩, c5, c6, c7⟩ := hW.keep R2
  clear l0 l1 hB2
  go_wp2_with fail
  exact bodyPost_ret (v := .tuple #[.agg #[.int .i64 u, .int .i64 1], .int .i64 0]) (by simp [results, Try.results12, go_sem, *]) rfl ⟨rfl, (B2.setCell (by show w.heap.size ≤ w.heap.size + 1; omega) _).setCell (by show w.heap.size ≤ w.heap.size + 1; omega) _⟩

end Go.Proofs.Ytjoanclnaeephaa
