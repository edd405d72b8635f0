/- All of the reference, for two numbers. -/
import Derived.Test.YtjoanclnaeephaaGreatZRefS
import Derived.Test.YtjoanclnaeephaaGreatRat4
namespace Go.Proofs.YtjoanclnaeephaaGreat
open Go.RowKit

set_option maxRecDepth 100000 in
set_option maxHeartbeats 20000000 in
theorem rall2 (g : Nat) (t1 l1 t2 l2 : Int) (v1 v2 : Bool) (w : World) (hc : B4 g (.int .i64 t1) (.int .i64 l1) (.int .i64 t2) (.int .i64 l2) w) (hz : g < w.heap.size)
    (HV1 : Hid (∀ wx, Calls Tryz.prog 15 #[.agg #[.int .i64 t1, .int .i64 l1]] wx fun e w' => e = .returned (.bool v1) ∧ Below wx.heap.size wx w'))
    (HV2 : Hid (∀ wx, Calls Tryz.prog 15 #[.agg #[.int .i64 t2, .int .i64 l2]] wx fun e w' => e = .returned (.bool v2) ∧ Below wx.heap.size wx w')) :
    Calls Tryz.prog 19 #[.slice (some ⟨g, 0, none⟩) 2 2] w fun e w' => e = .returned (.bool (v1 && v2)) ∧ Below w.heap.size w w' := by
  have HC := Lib.hid hc
  have HZ := Lib.hid hz
  clear hc hz
  go_enter Tryz.func19, Tryz.ntmps19
  go_wp2_with fail
  go_loopw [7] (fun i wr => ∃ k : Nat, Hid (k ≤ 2) ∧ i = .int .i64 (k : Int) ∧ Hid (0 < k → v1 = true) ∧ Hid (1 < k → v2 = true) ∧ Hid (Below w.heap.size w wr)) (fun i _ => 2 - (intOf i).toNat)
  case atStart => exact ⟨0, Nat.zero_le _, rfl, Lib.hid (fun h => absurd h (by decide)), Lib.hid (fun h => absurd h (by decide)), Lib.hid (Below.refl _ _)⟩
  case round =>
    obtain ⟨k, hk, rfl, hv1, hv2, hB⟩ := hrel
    obtain ⟨k0, k1, k2, k3⟩ := HC.out.keep HZ.out hB.out
    have hk' := hk.out
    rcases (by omega : k = 0 ∨ k = 1 ∨ k = 2) with rfl | rfl | rfl
    · clear hk'
      go_upto_region 4 with fail
      generalize hY : wr.alloc _ = Y
      have HY : Hid (Below w.heap.size w Y) := by
        subst hY
        exact hB.out.alloc hB.out.size _
      obtain ⟨j0, j1⟩ : Y.cell? ⟨wr.heap.size, 0, none⟩ = some (.int .i64 t1) ∧ Y.cell? ⟨wr.heap.size, 1, none⟩ = some (.int .i64 l1) := by
        subst hY
        simp [go_sem]
      clear hY k0 k1 k2 k3
      go_wp2_with fail
      (with_reducible refine (HV1.out _).mono ?_)
      rintro e w1 ⟨rfl, hB1⟩
      have HB1 := Lib.hid (HY.out.trans (hB1.mono HY.out.size))
      clear j0 j1 hB1 HY
      cases v1 with
      | false =>
        go_wp2_with fail
        go_ret
        exact ⟨rfl, HB1.out⟩
      | true =>
        go_wp2_with fail
        go_roundw
        case rel => exact ⟨1, Lib.hid (by decide), rfl, Lib.hid (fun _ => by first | exact trivial | rfl), Lib.hid (fun h => absurd h (by decide)), HB1⟩
        case measure => simp [intOf]
    · clear hk'
      go_upto_region 4 with fail
      generalize hY : wr.alloc _ = Y
      have HY : Hid (Below w.heap.size w Y) := by
        subst hY
        exact hB.out.alloc hB.out.size _
      obtain ⟨j0, j1⟩ : Y.cell? ⟨wr.heap.size, 0, none⟩ = some (.int .i64 t2) ∧ Y.cell? ⟨wr.heap.size, 1, none⟩ = some (.int .i64 l2) := by
        subst hY
        simp [go_sem]
      have e1 : v1 = true := hv1.out (by decide)
      subst e1
      clear hY k0 k1 k2 k3
      go_wp2_with fail
      (with_reducible refine (HV2.out _).mono ?_)
      rintro e w1 ⟨rfl, hB1⟩
      have HB1 := Lib.hid (HY.out.trans (hB1.mono HY.out.size))
      clear j0 j1 hB1 HY
      cases v2 with
      | false =>
        go_wp2_with fail
        go_ret
        exact ⟨rfl, HB1.out⟩
      | true =>
        go_wp2_with fail
        go_roundw
        case rel => exact ⟨2, Lib.hid (by decide), rfl, Lib.hid (fun _ => by first | exact trivial | rfl), Lib.hid (fun _ => by first | exact trivial | rfl), HB1⟩
        case measure => simp [intOf]
    · have e1 : v1 = true := hv1.out (by decide)
      have e2 : v2 = true := hv2.out (by decide)
      subst e1 e2
      clear hk' k0 k1 k2 k3
      go_wp2_with fail
      go_ret
      exact ⟨rfl, hB.out⟩

end Go.Proofs.YtjoanclnaeephaaGreat
