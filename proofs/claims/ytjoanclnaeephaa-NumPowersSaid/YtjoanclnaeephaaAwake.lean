/- awake, out of one value of num.Pow. -/
import Derived.Test.YtjoanclnaeephaaNum10
namespace Go.Proofs.Ytjoanclnaeephaa
open Go.RowKit

theorem awake1 : resT (fun x y => x + y) 1 3 1 6 = (1, 2, 0) := by decide +kernel
theorem awake2 : resT (fun x y => x + y) 1152921504606846976 1 1 1 = (0, 0, 3) := by decide +kernel

set_option maxRecDepth 100000 in
set_option maxHeartbeats 2000000 in
theorem awake_of (w : World) (HP : Hid (∀ wx, Calls Try.prog 12 #[.agg #[.int .i64 (-2), .int .i64 3], .int .i64 3] wx fun e w' => e = .returned (.tuple #[.agg #[.int .i64 (-8), .int .i64 27], .int .i64 0]) ∧ Below wx.heap.size wx w')) :
    Calls Try.prog 13 #[] w fun e w' => e = .returned (.bool true) ∧ Below w.heap.size w w' := by
  have HA : Hid (∀ wx, Calls Try.prog 24 #[.agg #[.int .i64 1, .int .i64 3], .agg #[.int .i64 1, .int .i64 6]] wx fun e w' => e = .returned (.tuple #[.agg #[.int .i64 1, .int .i64 2], .int .i64 0]) ∧ Below wx.heap.size wx w') := fun wx => by
    have := addNum_any 1 3 1 6 wx
    rw [awake1] at this
    exact this
  have HB : Hid (∀ wx, Calls Try.prog 24 #[.agg #[.int .i64 1152921504606846976, .int .i64 1], .agg #[.int .i64 1, .int .i64 1]] wx fun e w' => e = .returned (.tuple #[.agg #[.int .i64 0, .int .i64 0], .int .i64 3]) ∧ Below wx.heap.size wx w') := fun wx => by
    have := addNum_any 1152921504606846976 1 1 1 wx
    rw [awake2] at this
    exact this
  go_enter Try.func13, Try.ntmps13
  go_wp2_with fail
  (with_reducible refine (HA.out _).mono ?_)
  rintro e w1 ⟨rfl, hB1⟩
  go_wp2_with fail
  generalize hY : w1.alloc (.cells #[.int .i64 1, .int .i64 2] 23) = Y
  obtain ⟨hY1, hY2, k0, k1⟩ : w1.heap.size < Y.heap.size ∧ Below w1.heap.size w1 Y ∧ Y.cell? ⟨w1.heap.size, 0, none⟩ = some (.int .i64 1) ∧ Y.cell? ⟨w1.heap.size, 1, none⟩ = some (.int .i64 2) := by
    subst hY
    exact ⟨by simp, below_alloc w1 _, by simp [go_sem], by simp [go_sem]⟩
  clear hY
  (with_reducible refine (HP.out _).mono ?_)
  rintro e w2 ⟨rfl, hB2⟩
  have n0 := Lib.hid ((hB2.cell (p := ⟨w1.heap.size, 0, none⟩) hY1).trans k0)
  have n1 := Lib.hid ((hB2.cell (p := ⟨w1.heap.size, 1, none⟩) hY1).trans k1)
  have S2 := Lib.hid (stepB (stepB hB1 hY2) hB2)
  have hz2 := Lib.hid (Nat.lt_of_lt_of_le hY1 hB2.size)
  clear hY1 hY2 k0 k1 hB1 hB2
  go_wp2_with fail
  generalize hZ : w2.alloc (.cells #[.int .i64 (-8), .int .i64 27] 23) = Z
  obtain ⟨hZ1, hZ2, k0, k1⟩ : w2.heap.size < Z.heap.size ∧ Below w2.heap.size w2 Z ∧ Z.cell? ⟨w2.heap.size, 0, none⟩ = some (.int .i64 (-8)) ∧ Z.cell? ⟨w2.heap.size, 1, none⟩ = some (.int .i64 27) := by
    subst hZ
    exact ⟨by simp, below_alloc w2 _, by simp [go_sem], by simp [go_sem]⟩
  clear hZ
  (with_reducible refine (HB.out _).mono ?_)
  rintro e w3 ⟨rfl, hB3⟩
  have hW3 := stepB hZ2 hB3
  have m0 := (hB3.cell (p := ⟨w2.heap.size, 0, none⟩) hZ1).trans k0
  have m1 := (hB3.cell (p := ⟨w2.heap.size, 1, none⟩) hZ1).trans k1
  have o0 := (hW3.cell (p := ⟨w1.heap.size, 0, none⟩) hz2.out).trans n0.out
  have o1 := (hW3.cell (p := ⟨w1.heap.size, 1, none⟩) hz2.out).trans n1.out
  have S3 := Lib.hid (stepB S2.out hW3)
  have y1 := Nat.lt_of_lt_of_le hz2.out hW3.size
  have y2 := Nat.lt_of_lt_of_le hZ1 hB3.size
  have o2 : ∀ o ob, (w3.alloc ob).cell? ⟨w1.heap.size, o, none⟩ = w3.cell? ⟨w1.heap.size, o, none⟩ := fun o ob => (below_alloc w3 ob).cell (p := ⟨w1.heap.size, o, none⟩) y1
  have m2 : ∀ o ob, (w3.alloc ob).cell? ⟨w2.heap.size, o, none⟩ = w3.cell? ⟨w2.heap.size, o, none⟩ := fun o ob => (below_alloc w3 ob).cell (p := ⟨w2.heap.size, o, none⟩) y2
  clear y1 y2
  clear k0 k1 hZ1 hZ2 hW3 hB3
  go_wp2_with fail
  all_goals (go_ret; exact ⟨rfl, S3.out.alloc S3.out.size _⟩)

end Go.Proofs.Ytjoanclnaeephaa
