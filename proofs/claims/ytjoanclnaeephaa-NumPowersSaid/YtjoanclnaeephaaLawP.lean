/- diceboxlaw01.NumPowers: the walk. -/
import Derived.Test.YtjoanclnaeephaaLawB
namespace Go.Proofs.Ytjoanclnaeephaa
open Go.RowKit

set_option maxRecDepth 100000 in
set_option maxHeartbeats 4000000 in
theorem powers_walk (ta la m n p1 p2 e1 q1 q2 f1 r1 r2 g1 : Int) (w : World)
    (H1 : Hid (∀ wx, Calls Try.prog 12 #[.agg #[.int .i64 ta, .int .i64 la], .int .i64 m] wx (Rt p1 p2 e1 wx)))
    (H2 : Hid (∀ wx, Calls Try.prog 12 #[.agg #[.int .i64 ta, .int .i64 la], .int .i64 n] wx (Rt q1 q2 f1 wx)))
    (F : Hid (e1 = 0 → f1 = 0 → 0 ≤ m ∧ m ≤ 10000 ∧ 0 ≤ n ∧ n ≤ 10000))
    (H3 : Hid (∀ wx, Calls Try.prog 12 #[.agg #[.int .i64 ta, .int .i64 la], .int .i64 (m + n)] wx (Rt r1 r2 g1 wx)))
    (H4 : Hid (e1 = 0 → f1 = 0 → m + n ≤ 10000 → ∀ wx, Calls Try.prog 14 #[.agg #[.int .i64 p1, .int .i64 p2], .agg #[.int .i64 q1, .int .i64 q2]] wx (Rt r1 r2 g1 wx))) :
    Calls Try.prog 4 #[.agg #[.int .i64 ta, .int .i64 la], .int .i64 m, .int .i64 n] w fun e w' => e = .returned (.bool true) ∧ Below w.heap.size w w' := by
  go_enter Try.func4, Try.ntmps4
  go_upto_region 1 with fail
  generalize hX : w.alloc (.cells #[.int .i64 ta, .int .i64 la] 23) = X
  have HS : Hid (Below w.heap.size w X) := by
    subst hX
    exact (Below.refl _ _).alloc (Nat.le_refl _) _
  have HX : Hid (Bxs X [(w.heap.size, ta, la)]) := by
    subst hX
    exact (Bxs.nil w).new ta la
  clear hX
  obtain ⟨k0a, k0b, k0c, k0d, -⟩ : N2 X (w.heap.size) ta la := HX.out.1 0 _ rfl
  go_wp2_with fail
  (with_reducible refine (H1.out _).mono ?_)
  rintro e w1 ⟨rfl, hB⟩
  clear k0a k0b k0c k0d
  have HXn := Lib.hid (HX.out.keep hB)
  have HSn := Lib.hid (stepB HS.out hB)
  clear hB HX HS
  have HX := HXn
  have HS := HSn
  clear HXn HSn
  go_upto_region 2 with fail
  have HG1 := Lib.hid HS.out.size
  generalize hY : w1.alloc (.cells #[.int .i64 p1, .int .i64 p2] 23) = Y1
  have HXn : Hid (Bxs Y1 [(w.heap.size, ta, la), (w1.heap.size, p1, p2)]) := by
    subst hY
    exact HX.out.new p1 p2
  have HSn : Hid (Below w.heap.size w Y1) := by
    subst hY
    exact HS.out.alloc HS.out.size _
  clear hY HX HS
  have HX := HXn
  have HS := HSn
  clear HXn HSn
  obtain ⟨k0a, k0b, k0c, k0d, -⟩ : N2 Y1 (w.heap.size) ta la := HX.out.1 0 _ rfl
  go_wp2_with fail
  (with_reducible refine (H2.out _).mono ?_)
  rintro e w2 ⟨rfl, hB⟩
  clear k0a k0b k0c k0d
  have HXn := Lib.hid (HX.out.keep hB)
  have HSn := Lib.hid (stepB HS.out hB)
  clear hB HX HS
  have HX := HXn
  have HS := HSn
  clear HXn HSn
  go_upto_region 3 with fail
  have HG2 := Lib.hid HS.out.size
  generalize hY : w2.alloc (.cells #[.int .i64 q1, .int .i64 q2] 23) = Y2
  have HXn : Hid (Bxs Y2 [(w.heap.size, ta, la), (w1.heap.size, p1, p2), (w2.heap.size, q1, q2)]) := by
    subst hY
    exact HX.out.new q1 q2
  have HSn : Hid (Below w.heap.size w Y2) := by
    subst hY
    exact HS.out.alloc HS.out.size _
  clear hY HX HS
  have HX := HXn
  have HS := HSn
  clear HXn HSn
  by_cases he : e1 = 0
  · subst he
    by_cases hf : f1 = 0
    · subst hf
      obtain ⟨m0, m1, n0, n1⟩ := F.out rfl rfl
      by_cases hs : 10000 < m + n
      · have hd := decide_eq_true hs
        clear F hs
        go_wp2_with fail
        (with_reducible refine (awake_any _).mono ?_)
        rintro e wa ⟨rfl, hB⟩
        have hb := stepB HS.out hB
        clear hB HX HS
        go_wp2_with fail
        go_ret
        exact ⟨rfl, hb⟩
      · have hd := decide_eq_false hs
        have H4n := Lib.hid (H4.out rfl rfl (by omega))
        have hw : IntKind.i64.wrap (m + n) = m + n := IntWalk.i64_in _ (by omega)
        clear F H4 hs
        go_upto_region 5 with fail
        obtain ⟨k0a, k0b, k0c, k0d, -⟩ : N2 Y2 (w.heap.size) ta la := HX.out.1 0 _ rfl
        go_wp2_with fail
        (with_reducible refine (H3.out _).mono ?_)
        rintro e w3 ⟨rfl, hB⟩
        clear k0a k0b k0c k0d
        have HXn := Lib.hid (HX.out.keep hB)
        have HSn := Lib.hid (stepB HS.out hB)
        clear hB HX HS
        have HX := HXn
        have HS := HSn
        clear HXn HSn
        go_upto_region 6 with fail
        have HG3 := Lib.hid HS.out.size
        generalize hY : w3.alloc (.cells #[.int .i64 r1, .int .i64 r2] 23) = Y3
        have HXn : Hid (Bxs Y3 [(w.heap.size, ta, la), (w1.heap.size, p1, p2), (w2.heap.size, q1, q2), (w3.heap.size, r1, r2)]) := by
          subst hY
          exact HX.out.new r1 r2
        have HSn : Hid (Below w.heap.size w Y3) := by
          subst hY
          exact HS.out.alloc HS.out.size _
        clear hY HX HS
        have HX := HXn
        have HS := HSn
        clear HXn HSn
        obtain ⟨k1a, k1b, k1c, k1d, -⟩ : N2 Y3 (w1.heap.size) p1 p2 := HX.out.1 1 _ rfl
        obtain ⟨k2a, k2b, k2c, k2d, -⟩ : N2 Y3 (w2.heap.size) q1 q2 := HX.out.1 2 _ rfl
        go_wp2_with fail
        (with_reducible refine (H4n.out _).mono ?_)
        rintro e w4 ⟨rfl, hB⟩
        clear k1a k1b k1c k1d k2a k2b k2c k2d
        have HXn := Lib.hid (HX.out.keep hB)
        have HSn := Lib.hid (stepB HS.out hB)
        clear hB HX HS
        have HX := HXn
        have HS := HSn
        clear HXn HSn
        go_upto_region 7 with fail
        have HG4 := Lib.hid HS.out.size
        generalize hY : w4.alloc (.cells #[.int .i64 r1, .int .i64 r2] 23) = Y4
        have HXn : Hid (Bxs Y4 [(w.heap.size, ta, la), (w1.heap.size, p1, p2), (w2.heap.size, q1, q2), (w3.heap.size, r1, r2), (w4.heap.size, r1, r2)]) := by
          subst hY
          exact HX.out.new r1 r2
        have HSn : Hid (Below w.heap.size w Y4) := by
          subst hY
          exact HS.out.alloc HS.out.size _
        clear hY HX HS
        have HX := HXn
        have HS := HSn
        clear HXn HSn
        obtain ⟨k3a, k3b, k3c, k3d, -⟩ : N2 Y4 (w3.heap.size) r1 r2 := HX.out.1 3 _ rfl
        obtain ⟨k4a, k4b, k4c, k4d, -⟩ : N2 Y4 (w4.heap.size) r1 r2 := HX.out.1 4 _ rfl
        go_wp2_with fail
        (with_reducible refine (awake_any _).mono ?_)
        rintro e wa ⟨rfl, hB⟩
        have hb := stepB HS.out hB
        clear hB HX HS
        go_wp2_with fail
        go_ret
        exact ⟨rfl, hb⟩
    · have h1 : (f1 != 0) = true := bne_iff_ne.2 hf
      clear F hf
      go_wp2_with fail
      (with_reducible refine (awake_any _).mono ?_)
      rintro e wa ⟨rfl, hB⟩
      have hb := stepB HS.out hB
      clear hB HX HS
      go_wp2_with fail
      go_ret
      exact ⟨rfl, hb⟩
  · have h1 : (e1 != 0) = true := bne_iff_ne.2 he
    clear F he
    go_wp2_with fail
    (with_reducible refine (awake_any _).mono ?_)
    rintro e wa ⟨rfl, hB⟩
    have hb := stepB HS.out hB
    clear hB HX HS
    go_wp2_with fail
    go_ret
    exact ⟨rfl, hb⟩

end Go.Proofs.Ytjoanclnaeephaa
