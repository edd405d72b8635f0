/- The four operations on numbers. -/
import Derived.Test.YtjoanclnaeephaaGreatNum2
namespace Go.Proofs.YtjoanclnaeephaaGreat
open Go.RowKit

set_option maxRecDepth 100000 in
set_option maxHeartbeats 2000000 in
theorem call_24 (t l t' l' p1 p2 q : Int) (w : World)
    (HC : Hid (∀ wx, Calls Tryz.prog 17 #[.agg #[.int .i64 t, .int .i64 l], .agg #[.int .i64 t', .int .i64 l'], .func (.func 18) #[] #[]] wx fun e w' => e = .returned (.tuple #[.agg #[.int .i64 p1, .int .i64 p2], .int .i64 q]) ∧ Below wx.heap.size wx w')) :
    Calls Tryz.prog 4 #[.agg #[.int .i64 t, .int .i64 l], .agg #[.int .i64 t', .int .i64 l']] w fun e w' => e = .returned (.tuple #[.agg #[.int .i64 p1, .int .i64 p2], .int .i64 q]) ∧ Below w.heap.size w w' := by
  go_enter Tryz.func4, Tryz.ntmps4
  go_upto_region 1 with fail
  obtain ⟨X, hX, hwX, hz, k0, k1, k2, k3, hW⟩ := boxes3 w (.int .i64 t) (.int .i64 l) (.int .i64 t') (.int .i64 l') (.int .i64 0) (.int .i64 0)
  rw [hX]
  clear hX hz
  go_wp2_with fail
  (with_reducible refine (HC.out X).mono ?_)
  rintro e w1 ⟨rfl, hB1⟩
  have B1 := hwX.trans (hB1.mono hwX.size)
  obtain ⟨⟨c1, c2, c3, c4⟩, c5, c6, c7⟩ := hW.keep hB1
  clear k0 k1 k2 k3
  go_wp2_with fail
  exact bodyPost_ret (v := .tuple #[.agg #[.int .i64 p1, .int .i64 p2], .int .i64 q]) (by simp [results, Tryz.results4, go_sem, *]) rfl ⟨rfl, (B1.setCell (by show w.heap.size ≤ w.heap.size + 2; omega) _).setCell (by show w.heap.size ≤ w.heap.size + 2; omega) _⟩

set_option maxRecDepth 100000 in
set_option maxHeartbeats 2000000 in
theorem call_25 (t l t' l' p1 p2 q : Int) (w : World)
    (HC : Hid (∀ wx, Calls Tryz.prog 17 #[.agg #[.int .i64 t, .int .i64 l], .agg #[.int .i64 t', .int .i64 l'], .func (.func 23) #[] #[]] wx fun e w' => e = .returned (.tuple #[.agg #[.int .i64 p1, .int .i64 p2], .int .i64 q]) ∧ Below wx.heap.size wx w')) :
    Calls Tryz.prog 6 #[.agg #[.int .i64 t, .int .i64 l], .agg #[.int .i64 t', .int .i64 l']] w fun e w' => e = .returned (.tuple #[.agg #[.int .i64 p1, .int .i64 p2], .int .i64 q]) ∧ Below w.heap.size w w' := by
  go_enter Tryz.func6, Tryz.ntmps6
  go_upto_region 1 with fail
  obtain ⟨X, hX, hwX, hz, k0, k1, k2, k3, hW⟩ := boxes3 w (.int .i64 t) (.int .i64 l) (.int .i64 t') (.int .i64 l') (.int .i64 0) (.int .i64 0)
  rw [hX]
  clear hX hz
  go_wp2_with fail
  (with_reducible refine (HC.out X).mono ?_)
  rintro e w1 ⟨rfl, hB1⟩
  have B1 := hwX.trans (hB1.mono hwX.size)
  obtain ⟨⟨c1, c2, c3, c4⟩, c5, c6, c7⟩ := hW.keep hB1
  clear k0 k1 k2 k3
  go_wp2_with fail
  exact bodyPost_ret (v := .tuple #[.agg #[.int .i64 p1, .int .i64 p2], .int .i64 q]) (by simp [results, Tryz.results6, go_sem, *]) rfl ⟨rfl, (B1.setCell (by show w.heap.size ≤ w.heap.size + 2; omega) _).setCell (by show w.heap.size ≤ w.heap.size + 2; omega) _⟩

set_option maxRecDepth 100000 in
set_option maxHeartbeats 2000000 in
theorem call_14 (t l t' l' p1 p2 q : Int) (w : World)
    (HC : Hid (∀ wx, Calls Tryz.prog 17 #[.agg #[.int .i64 t, .int .i64 l], .agg #[.int .i64 t', .int .i64 l'], .func (.func 25) #[] #[]] wx fun e w' => e = .returned (.tuple #[.agg #[.int .i64 p1, .int .i64 p2], .int .i64 q]) ∧ Below wx.heap.size wx w')) :
    Calls Tryz.prog 8 #[.agg #[.int .i64 t, .int .i64 l], .agg #[.int .i64 t', .int .i64 l']] w fun e w' => e = .returned (.tuple #[.agg #[.int .i64 p1, .int .i64 p2], .int .i64 q]) ∧ Below w.heap.size w w' := by
  go_enter Tryz.func8, Tryz.ntmps8
  go_upto_region 1 with fail
  obtain ⟨X, hX, hwX, hz, k0, k1, k2, k3, hW⟩ := boxes3 w (.int .i64 t) (.int .i64 l) (.int .i64 t') (.int .i64 l') (.int .i64 0) (.int .i64 0)
  rw [hX]
  clear hX hz
  go_wp2_with fail
  (with_reducible refine (HC.out X).mono ?_)
  rintro e w1 ⟨rfl, hB1⟩
  have B1 := hwX.trans (hB1.mono hwX.size)
  obtain ⟨⟨c1, c2, c3, c4⟩, c5, c6, c7⟩ := hW.keep hB1
  clear k0 k1 k2 k3
  go_wp2_with fail
  exact bodyPost_ret (v := .tuple #[.agg #[.int .i64 p1, .int .i64 p2], .int .i64 q]) (by simp [results, Tryz.results8, go_sem, *]) rfl ⟨rfl, (B1.setCell (by show w.heap.size ≤ w.heap.size + 2; omega) _).setCell (by show w.heap.size ≤ w.heap.size + 2; omega) _⟩

end Go.Proofs.YtjoanclnaeephaaGreat
