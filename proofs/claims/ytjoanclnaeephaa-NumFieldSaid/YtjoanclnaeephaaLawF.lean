/- diceboxlaw01.NumField: the walk. -/
import Derived.Test.YtjoanclnaeephaaLawB
namespace Go.Proofs.Ytjoanclnaeephaa
open Go.RowKit

set_option maxRecDepth 100000 in
set_option maxHeartbeats 40000000 in
theorem field_walk (ta la tb lb tc lc p1 p2 p0 r1 r2 r0 x1 x2 x0 s1 s2 s0 y1 y2 y0 z1 z2 z0 u1 u2 u0 v1 v2 v0 k1 k2 k0 m1 m2 m0 d1 d2 d0 o1 o2 o0 q1 q2 q0 h1 h2 h0 : Int) (w : World)
    (H1 : Hid (∀ wx, Calls Try.prog 24 #[.agg #[.int .i64 ta, .int .i64 la], .agg #[.int .i64 tb, .int .i64 lb]] wx (Rt p1 p2 p0 wx)))
    (H2 : Hid (∀ wx, Calls Try.prog 24 #[.agg #[.int .i64 tb, .int .i64 lb], .agg #[.int .i64 ta, .int .i64 la]] wx (Rt p1 p2 p0 wx)))
    (H3 : Hid (∀ wx, Calls Try.prog 14 #[.agg #[.int .i64 ta, .int .i64 la], .agg #[.int .i64 tb, .int .i64 lb]] wx (Rt r1 r2 r0 wx)))
    (H4 : Hid (∀ wx, Calls Try.prog 14 #[.agg #[.int .i64 tb, .int .i64 lb], .agg #[.int .i64 ta, .int .i64 la]] wx (Rt r1 r2 r0 wx)))
    (H5 : Hid (∀ wx, Calls Try.prog 25 #[.agg #[.int .i64 p1, .int .i64 p2], .agg #[.int .i64 tb, .int .i64 lb]] wx (Rt x1 x2 x0 wx)))
    (H6 : Hid (∀ wx, Calls Try.prog 24 #[.agg #[.int .i64 p1, .int .i64 p2], .agg #[.int .i64 tc, .int .i64 lc]] wx (Rt s1 s2 s0 wx)))
    (H7 : Hid (∀ wx, Calls Try.prog 24 #[.agg #[.int .i64 tb, .int .i64 lb], .agg #[.int .i64 tc, .int .i64 lc]] wx (Rt y1 y2 y0 wx)))
    (H8 : Hid (∀ wx, Calls Try.prog 24 #[.agg #[.int .i64 ta, .int .i64 la], .agg #[.int .i64 y1, .int .i64 y2]] wx (Rt z1 z2 z0 wx)))
    (H9 : Hid (∀ wx, Calls Try.prog 14 #[.agg #[.int .i64 p1, .int .i64 p2], .agg #[.int .i64 tc, .int .i64 lc]] wx (Rt u1 u2 u0 wx)))
    (H10 : Hid (∀ wx, Calls Try.prog 14 #[.agg #[.int .i64 ta, .int .i64 la], .agg #[.int .i64 tc, .int .i64 lc]] wx (Rt v1 v2 v0 wx)))
    (H11 : Hid (∀ wx, Calls Try.prog 14 #[.agg #[.int .i64 tb, .int .i64 lb], .agg #[.int .i64 tc, .int .i64 lc]] wx (Rt k1 k2 k0 wx)))
    (H12 : Hid (∀ wx, Calls Try.prog 24 #[.agg #[.int .i64 v1, .int .i64 v2], .agg #[.int .i64 k1, .int .i64 k2]] wx (Rt m1 m2 m0 wx)))
    (H13 : Hid (∀ wx, Calls Try.prog 26 #[.agg #[.int .i64 r1, .int .i64 r2], .agg #[.int .i64 tb, .int .i64 lb]] wx (Rt d1 d2 d0 wx)))
    (H14 : Hid (∀ wx, Calls Try.prog 14 #[.agg #[.int .i64 r1, .int .i64 r2], .agg #[.int .i64 tc, .int .i64 lc]] wx (Rt o1 o2 o0 wx)))
    (H15 : Hid (∀ wx, Calls Try.prog 14 #[.agg #[.int .i64 tb, .int .i64 lb], .agg #[.int .i64 tc, .int .i64 lc]] wx (Rt q1 q2 q0 wx)))
    (H16 : Hid (∀ wx, Calls Try.prog 14 #[.agg #[.int .i64 ta, .int .i64 la], .agg #[.int .i64 q1, .int .i64 q2]] wx (Rt h1 h2 h0 wx)))
    (F1 : Hid (p0 = 0 → x0 = 0 → x1 = ta ∧ x2 = la))
    (F2 : Hid (p0 = 0 → s0 = 0 → y0 = 0 → z0 = 0 → s1 = z1 ∧ s2 = z2))
    (F3 : Hid (p0 = 0 → u0 = 0 → v0 = 0 → k0 = 0 → m0 = 0 → u1 = m1 ∧ u2 = m2))
    (F4 : Hid (r0 = 0 → d0 = 0 → d1 = ta ∧ d2 = la))
    (F5 : Hid (r0 = 0 → o0 = 0 → q0 = 0 → h0 = 0 → o1 = h1 ∧ o2 = h2)) :
    Calls Try.prog 8 #[.agg #[.int .i64 ta, .int .i64 la], .agg #[.int .i64 tb, .int .i64 lb], .agg #[.int .i64 tc, .int .i64 lc]] w fun e w' => e = .returned (.bool true) ∧ Below w.heap.size w w' := by
  go_enter Try.func8, Try.ntmps8
  go_upto_region 1 with fail
  generalize hX : ((w.alloc (.cells #[.int .i64 ta, .int .i64 la] 23)).alloc (.cells #[.int .i64 tb, .int .i64 lb] 23)).alloc (.cells #[.int .i64 tc, .int .i64 lc] 23) = X
  have HS : Hid (Below w.heap.size w X) := by
    subst hX
    exact (((Below.refl _ _).alloc (Nat.le_refl _) _).alloc (by simp) _).alloc (by simp; omega) _
  have HX : Hid (Bxs X [(w.heap.size, ta, la), (w.heap.size + 1, tb, lb), (w.heap.size + 1 + 1, tc, lc)]) := by
    subst hX
    exact Bxs.three w ta la tb lb tc lc
  clear hX
  obtain ⟨k0a, k0b, k0c, k0d, -⟩ : N2 X (w.heap.size) ta la := HX.out.1 0 _ rfl
  obtain ⟨k1a, k1b, k1c, k1d, -⟩ : N2 X (w.heap.size + 1) tb lb := HX.out.1 1 _ rfl
  go_wp2_with fail
  (with_reducible refine (H1.out _).mono ?_)
  rintro e w1 ⟨rfl, hB⟩
  clear k0a k0b k0c k0d k1a k1b k1c k1d
  have HXn := Lib.hid (HX.out.keep hB)
  have HSn := Lib.hid (stepB HS.out hB)
  clear hB HX HS
  have HX := HXn
  have HS := HSn
  clear HXn HSn
  go_upto_region 2 with fail
  have HG3 := Lib.hid HS.out.size
  generalize hY : w1.alloc (.cells #[.int .i64 p1, .int .i64 p2] 23) = Y1
  have HXn : Hid (Bxs Y1 [(w.heap.size, ta, la), (w.heap.size + 1, tb, lb), (w.heap.size + 1 + 1, tc, lc), (w1.heap.size, p1, p2)]) := by
    subst hY
    exact HX.out.new p1 p2
  have HSn : Hid (Below w.heap.size w Y1) := by
    subst hY
    exact HS.out.alloc HS.out.size _
  clear hY HX HS
  have HX := HXn
  have HS := HSn
  clear HXn HSn
  obtain ⟨k0a, k0b, k0c, k0d, -⟩ : N2 Y1 (w.heap.size) ta la := HX.out.1 0 _ rfl
  obtain ⟨k1a, k1b, k1c, k1d, -⟩ : N2 Y1 (w.heap.size + 1) tb lb := HX.out.1 1 _ rfl
  go_wp2_with fail
  (with_reducible refine (H2.out _).mono ?_)
  rintro e w2 ⟨rfl, hB⟩
  clear k0a k0b k0c k0d k1a k1b k1c k1d
  have HXn := Lib.hid (HX.out.keep hB)
  have HSn := Lib.hid (stepB HS.out hB)
  clear hB HX HS
  have HX := HXn
  have HS := HSn
  clear HXn HSn
  go_upto_region 3 with fail
  have HG4 := Lib.hid HS.out.size
  generalize hY : w2.alloc (.cells #[.int .i64 p1, .int .i64 p2] 23) = Y2
  have HXn : Hid (Bxs Y2 [(w.heap.size, ta, la), (w.heap.size + 1, tb, lb), (w.heap.size + 1 + 1, tc, lc), (w1.heap.size, p1, p2), (w2.heap.size, p1, p2)]) := by
    subst hY
    exact HX.out.new p1 p2
  have HSn : Hid (Below w.heap.size w Y2) := by
    subst hY
    exact HS.out.alloc HS.out.size _
  clear hY HX HS
  have HX := HXn
  have HS := HSn
  clear HXn HSn
  obtain ⟨k0a, k0b, k0c, k0d, -⟩ : N2 Y2 (w.heap.size) ta la := HX.out.1 0 _ rfl
  obtain ⟨k1a, k1b, k1c, k1d, -⟩ : N2 Y2 (w.heap.size + 1) tb lb := HX.out.1 1 _ rfl
  go_wp2_with fail
  (with_reducible refine (H3.out _).mono ?_)
  rintro e w3 ⟨rfl, hB⟩
  clear k0a k0b k0c k0d k1a k1b k1c k1d
  have HXn := Lib.hid (HX.out.keep hB)
  have HSn := Lib.hid (stepB HS.out hB)
  clear hB HX HS
  have HX := HXn
  have HS := HSn
  clear HXn HSn
  go_upto_region 4 with fail
  have HG5 := Lib.hid HS.out.size
  generalize hY : w3.alloc (.cells #[.int .i64 r1, .int .i64 r2] 23) = Y3
  have HXn : Hid (Bxs Y3 [(w.heap.size, ta, la), (w.heap.size + 1, tb, lb), (w.heap.size + 1 + 1, tc, lc), (w1.heap.size, p1, p2), (w2.heap.size, p1, p2), (w3.heap.size, r1, r2)]) := by
    subst hY
    exact HX.out.new r1 r2
  have HSn : Hid (Below w.heap.size w Y3) := by
    subst hY
    exact HS.out.alloc HS.out.size _
  clear hY HX HS
  have HX := HXn
  have HS := HSn
  clear HXn HSn
  obtain ⟨k0a, k0b, k0c, k0d, -⟩ : N2 Y3 (w.heap.size) ta la := HX.out.1 0 _ rfl
  obtain ⟨k1a, k1b, k1c, k1d, -⟩ : N2 Y3 (w.heap.size + 1) tb lb := HX.out.1 1 _ rfl
  go_wp2_with fail
  (with_reducible refine (H4.out _).mono ?_)
  rintro e w4 ⟨rfl, hB⟩
  clear k0a k0b k0c k0d k1a k1b k1c k1d
  have HXn := Lib.hid (HX.out.keep hB)
  have HSn := Lib.hid (stepB HS.out hB)
  clear hB HX HS
  have HX := HXn
  have HS := HSn
  clear HXn HSn
  go_upto_region 5 with fail
  have HG6 := Lib.hid HS.out.size
  generalize hY : w4.alloc (.cells #[.int .i64 r1, .int .i64 r2] 23) = Y4
  have HXn : Hid (Bxs Y4 [(w.heap.size, ta, la), (w.heap.size + 1, tb, lb), (w.heap.size + 1 + 1, tc, lc), (w1.heap.size, p1, p2), (w2.heap.size, p1, p2), (w3.heap.size, r1, r2), (w4.heap.size, r1, r2)]) := by
    subst hY
    exact HX.out.new r1 r2
  have HSn : Hid (Below w.heap.size w Y4) := by
    subst hY
    exact HS.out.alloc HS.out.size _
  clear hY HX HS
  have HX := HXn
  have HS := HSn
  clear HXn HSn
  obtain ⟨k3a, k3b, k3c, k3d, -⟩ : N2 Y4 (w1.heap.size) p1 p2 := HX.out.1 3 _ rfl
  obtain ⟨k4a, k4b, k4c, k4d, -⟩ : N2 Y4 (w2.heap.size) p1 p2 := HX.out.1 4 _ rfl
  obtain ⟨k5a, k5b, k5c, k5d, -⟩ : N2 Y4 (w3.heap.size) r1 r2 := HX.out.1 5 _ rfl
  obtain ⟨k6a, k6b, k6c, k6d, -⟩ : N2 Y4 (w4.heap.size) r1 r2 := HX.out.1 6 _ rfl
  go_upto_region 7 with fail
  clear k3a k3b k3c k3d k4a k4b k4c k4d k5a k5b k5c k5d k6a k6b k6c k6d
  go_upto_if 76 with fail
  go_cut [] (fun wx => Bxs wx [(w.heap.size, ta, la), (w.heap.size + 1, tb, lb), (w.heap.size + 1 + 1, tc, lc), (w1.heap.size, p1, p2), (w2.heap.size, p1, p2), (w3.heap.size, r1, r2), (w4.heap.size, r1, r2)] ∧ Below w.heap.size w wx)
  case first => as_aux_lemma =>
    by_cases hp : p0 ≠ 0
    · skip
      have hb : (p0 == 0) = false := beq_eq_false_iff_ne.2 hp
      clear hp
      go_wp2_with fail
      all_goals go_meet
      all_goals exact ⟨HX.out, HS.out⟩
    obtain rfl : p0 = 0 := Decidable.not_not.1 hp
    clear hp
    go_upto_region 8 with fail
    obtain ⟨k3a, k3b, k3c, k3d, -⟩ : N2 Y4 (w1.heap.size) p1 p2 := HX.out.1 3 _ rfl
    obtain ⟨k1a, k1b, k1c, k1d, -⟩ : N2 Y4 (w.heap.size + 1) tb lb := HX.out.1 1 _ rfl
    go_wp2_with fail
    (with_reducible refine (H5.out _).mono ?_)
    rintro e w5 ⟨rfl, hB⟩
    clear k3a k3b k3c k3d k1a k1b k1c k1d
    have HXn := Lib.hid (HX.out.keep hB)
    have HSn := Lib.hid (stepB HS.out hB)
    clear hB HX HS
    have HX := HXn
    have HS := HSn
    clear HXn HSn
    go_upto_region 9 with fail
    have HG7 := Lib.hid HS.out.size
    generalize hY : w5.alloc (.cells #[.int .i64 x1, .int .i64 x2] 23) = Y5
    have HXn : Hid (Bxs Y5 [(w.heap.size, ta, la), (w.heap.size + 1, tb, lb), (w.heap.size + 1 + 1, tc, lc), (w1.heap.size, p1, p2), (w2.heap.size, p1, p2), (w3.heap.size, r1, r2), (w4.heap.size, r1, r2), (w5.heap.size, x1, x2)]) := by
      subst hY
      exact HX.out.new x1 x2
    have HSn : Hid (Below w.heap.size w Y5) := by
      subst hY
      exact HS.out.alloc HS.out.size _
    clear hY HX HS
    have HX := HXn
    have HS := HSn
    clear HXn HSn
    go_cut [89] (fun t wx => t = .bool false ∧ Y5 = wx)
    case first => as_aux_lemma =>
      by_cases hcx0 : x0 ≠ 0
      · skip
        have hb : (x0 == 0) = false := beq_eq_false_iff_ne.2 hcx0
        clear hcx0
        go_wp2_with fail
        all_goals go_meet
        all_goals exact ⟨rfl, rfl⟩
      obtain rfl : x0 = 0 := Decidable.not_not.1 hcx0
      clear hcx0
      obtain ⟨g1, g2⟩ := F1.out (by trivial) (by trivial)
      have g3 := g1.symm
      have g4 := g2.symm
      clear g1 g2
      subst g3
      subst g4
      obtain ⟨k7a, k7b, k7c, k7d, -⟩ : N2 Y5 (w5.heap.size) ta la := HX.out.1 7 _ rfl
      obtain ⟨k0a, k0b, k0c, k0d, -⟩ : N2 Y5 (w.heap.size) ta la := HX.out.1 0 _ rfl
      go_wp2_with fail
      all_goals go_meet
      all_goals exact ⟨rfl, rfl⟩
    case rest => as_aux_lemma =>
      obtain ⟨rfl, rfl⟩ := hcut
      go_upto_region 11 with fail
      obtain ⟨k3a, k3b, k3c, k3d, -⟩ : N2 Y5 (w1.heap.size) p1 p2 := HX.out.1 3 _ rfl
      obtain ⟨k2a, k2b, k2c, k2d, -⟩ : N2 Y5 (w.heap.size + 1 + 1) tc lc := HX.out.1 2 _ rfl
      go_wp2_with fail
      (with_reducible refine (H6.out _).mono ?_)
      rintro e w6 ⟨rfl, hB⟩
      clear k3a k3b k3c k3d k2a k2b k2c k2d
      have HXn := Lib.hid (HX.out.keep hB)
      have HSn := Lib.hid (stepB HS.out hB)
      clear hB HX HS
      have HX := HXn
      have HS := HSn
      clear HXn HSn
      go_upto_region 12 with fail
      have HG8 := Lib.hid HS.out.size
      generalize hY : w6.alloc (.cells #[.int .i64 s1, .int .i64 s2] 23) = Y6
      have HXn : Hid (Bxs Y6 [(w.heap.size, ta, la), (w.heap.size + 1, tb, lb), (w.heap.size + 1 + 1, tc, lc), (w1.heap.size, p1, p2), (w2.heap.size, p1, p2), (w3.heap.size, r1, r2), (w4.heap.size, r1, r2), (w5.heap.size, x1, x2), (w6.heap.size, s1, s2)]) := by
        subst hY
        exact HX.out.new s1 s2
      have HSn : Hid (Below w.heap.size w Y6) := by
        subst hY
        exact HS.out.alloc HS.out.size _
      clear hY HX HS
      have HX := HXn
      have HS := HSn
      clear HXn HSn
      obtain ⟨k1a, k1b, k1c, k1d, -⟩ : N2 Y6 (w.heap.size + 1) tb lb := HX.out.1 1 _ rfl
      obtain ⟨k2a, k2b, k2c, k2d, -⟩ : N2 Y6 (w.heap.size + 1 + 1) tc lc := HX.out.1 2 _ rfl
      go_wp2_with fail
      (with_reducible refine (H7.out _).mono ?_)
      rintro e w7 ⟨rfl, hB⟩
      clear k1a k1b k1c k1d k2a k2b k2c k2d
      have HXn := Lib.hid (HX.out.keep hB)
      have HSn := Lib.hid (stepB HS.out hB)
      clear hB HX HS
      have HX := HXn
      have HS := HSn
      clear HXn HSn
      go_upto_region 13 with fail
      have HG9 := Lib.hid HS.out.size
      generalize hY : w7.alloc (.cells #[.int .i64 y1, .int .i64 y2] 23) = Y7
      have HXn : Hid (Bxs Y7 [(w.heap.size, ta, la), (w.heap.size + 1, tb, lb), (w.heap.size + 1 + 1, tc, lc), (w1.heap.size, p1, p2), (w2.heap.size, p1, p2), (w3.heap.size, r1, r2), (w4.heap.size, r1, r2), (w5.heap.size, x1, x2), (w6.heap.size, s1, s2), (w7.heap.size, y1, y2)]) := by
        subst hY
        exact HX.out.new y1 y2
      have HSn : Hid (Below w.heap.size w Y7) := by
        subst hY
        exact HS.out.alloc HS.out.size _
      clear hY HX HS
      have HX := HXn
      have HS := HSn
      clear HXn HSn
      obtain ⟨k0a, k0b, k0c, k0d, -⟩ : N2 Y7 (w.heap.size) ta la := HX.out.1 0 _ rfl
      obtain ⟨k9a, k9b, k9c, k9d, -⟩ : N2 Y7 (w7.heap.size) y1 y2 := HX.out.1 9 _ rfl
      go_wp2_with fail
      (with_reducible refine (H8.out _).mono ?_)
      rintro e w8 ⟨rfl, hB⟩
      clear k0a k0b k0c k0d k9a k9b k9c k9d
      have HXn := Lib.hid (HX.out.keep hB)
      have HSn := Lib.hid (stepB HS.out hB)
      clear hB HX HS
      have HX := HXn
      have HS := HSn
      clear HXn HSn
      go_upto_region 14 with fail
      have HG10 := Lib.hid HS.out.size
      generalize hY : w8.alloc (.cells #[.int .i64 z1, .int .i64 z2] 23) = Y8
      have HXn : Hid (Bxs Y8 [(w.heap.size, ta, la), (w.heap.size + 1, tb, lb), (w.heap.size + 1 + 1, tc, lc), (w1.heap.size, p1, p2), (w2.heap.size, p1, p2), (w3.heap.size, r1, r2), (w4.heap.size, r1, r2), (w5.heap.size, x1, x2), (w6.heap.size, s1, s2), (w7.heap.size, y1, y2), (w8.heap.size, z1, z2)]) := by
        subst hY
        exact HX.out.new z1 z2
      have HSn : Hid (Below w.heap.size w Y8) := by
        subst hY
        exact HS.out.alloc HS.out.size _
      clear hY HX HS
      have HX := HXn
      have HS := HSn
      clear HXn HSn
      go_cut [122] (fun t wx => t = .bool false ∧ Y8 = wx)
      case first => as_aux_lemma =>
        by_cases hcs0 : s0 ≠ 0
        · skip
          have hb : (s0 == 0) = false := beq_eq_false_iff_ne.2 hcs0
          clear hcs0
          go_wp2_with fail
          all_goals go_meet
          all_goals exact ⟨rfl, rfl⟩
        obtain rfl : s0 = 0 := Decidable.not_not.1 hcs0
        clear hcs0
        by_cases hcy0 : y0 ≠ 0
        · skip
          have hb : (y0 == 0) = false := beq_eq_false_iff_ne.2 hcy0
          clear hcy0
          go_wp2_with fail
          all_goals go_meet
          all_goals exact ⟨rfl, rfl⟩
        obtain rfl : y0 = 0 := Decidable.not_not.1 hcy0
        clear hcy0
        by_cases hcz0 : z0 ≠ 0
        · skip
          have hb : (z0 == 0) = false := beq_eq_false_iff_ne.2 hcz0
          clear hcz0
          go_wp2_with fail
          all_goals go_meet
          all_goals exact ⟨rfl, rfl⟩
        obtain rfl : z0 = 0 := Decidable.not_not.1 hcz0
        clear hcz0
        obtain ⟨g1, g2⟩ := F2.out (by trivial) (by trivial) (by trivial) (by trivial)
        have g3 := g1.symm
        have g4 := g2.symm
        clear g1 g2
        subst g3
        subst g4
        obtain ⟨k8a, k8b, k8c, k8d, -⟩ : N2 Y8 (w6.heap.size) z1 z2 := HX.out.1 8 _ rfl
        obtain ⟨k10a, k10b, k10c, k10d, -⟩ : N2 Y8 (w8.heap.size) z1 z2 := HX.out.1 10 _ rfl
        go_wp2_with fail
        all_goals go_meet
        all_goals exact ⟨rfl, rfl⟩
      case rest => as_aux_lemma =>
        obtain ⟨rfl, rfl⟩ := hcut
        go_upto_region 16 with fail
        obtain ⟨k3a, k3b, k3c, k3d, -⟩ : N2 Y8 (w1.heap.size) p1 p2 := HX.out.1 3 _ rfl
        obtain ⟨k2a, k2b, k2c, k2d, -⟩ : N2 Y8 (w.heap.size + 1 + 1) tc lc := HX.out.1 2 _ rfl
        go_wp2_with fail
        (with_reducible refine (H9.out _).mono ?_)
        rintro e w9 ⟨rfl, hB⟩
        clear k3a k3b k3c k3d k2a k2b k2c k2d
        have HXn := Lib.hid (HX.out.keep hB)
        have HSn := Lib.hid (stepB HS.out hB)
        clear hB HX HS
        have HX := HXn
        have HS := HSn
        clear HXn HSn
        obtain ⟨k8a, k8b, k8c, k8d, -⟩ : N2 w9 (w6.heap.size) s1 s2 := HX.out.1 8 _ rfl
        go_upto_region 17 with fail
        clear k8a k8b k8c k8d
        generalize hY : (w9.setCell ⟨w6.heap.size, 0, none⟩ (.int .i64 u1)).setCell ⟨w6.heap.size, 1, none⟩ (.int .i64 u2) = Y9
        have HXn : Hid (Bxs Y9 [(w.heap.size, ta, la), (w.heap.size + 1, tb, lb), (w.heap.size + 1 + 1, tc, lc), (w1.heap.size, p1, p2), (w2.heap.size, p1, p2), (w3.heap.size, r1, r2), (w4.heap.size, r1, r2), (w5.heap.size, x1, x2), (w6.heap.size, u1, u2), (w7.heap.size, y1, y2), (w8.heap.size, z1, z2)]) := by
          subst hY
          exact HX.out.set 8 (g := w6.heap.size) (a := s1) (b := s2) rfl u1 u2
        have HSn : Hid (Below w.heap.size w Y9) := by
          subst hY
          exact set2_below HS.out (HG8.out) _ _
        clear hY HX HS
        have HX := HXn
        have HS := HSn
        clear HXn HSn
        obtain ⟨k0a, k0b, k0c, k0d, -⟩ : N2 Y9 (w.heap.size) ta la := HX.out.1 0 _ rfl
        obtain ⟨k2a, k2b, k2c, k2d, -⟩ : N2 Y9 (w.heap.size + 1 + 1) tc lc := HX.out.1 2 _ rfl
        go_wp2_with fail
        (with_reducible refine (H10.out _).mono ?_)
        rintro e w10 ⟨rfl, hB⟩
        clear k0a k0b k0c k0d k2a k2b k2c k2d
        have HXn := Lib.hid (HX.out.keep hB)
        have HSn := Lib.hid (stepB HS.out hB)
        clear hB HX HS
        have HX := HXn
        have HS := HSn
        clear HXn HSn
        obtain ⟨k9a, k9b, k9c, k9d, -⟩ : N2 w10 (w7.heap.size) y1 y2 := HX.out.1 9 _ rfl
        go_upto_region 18 with fail
        clear k9a k9b k9c k9d
        generalize hY : (w10.setCell ⟨w7.heap.size, 0, none⟩ (.int .i64 v1)).setCell ⟨w7.heap.size, 1, none⟩ (.int .i64 v2) = Y10
        have HXn : Hid (Bxs Y10 [(w.heap.size, ta, la), (w.heap.size + 1, tb, lb), (w.heap.size + 1 + 1, tc, lc), (w1.heap.size, p1, p2), (w2.heap.size, p1, p2), (w3.heap.size, r1, r2), (w4.heap.size, r1, r2), (w5.heap.size, x1, x2), (w6.heap.size, u1, u2), (w7.heap.size, v1, v2), (w8.heap.size, z1, z2)]) := by
          subst hY
          exact HX.out.set 9 (g := w7.heap.size) (a := y1) (b := y2) rfl v1 v2
        have HSn : Hid (Below w.heap.size w Y10) := by
          subst hY
          exact set2_below HS.out (HG9.out) _ _
        clear hY HX HS
        have HX := HXn
        have HS := HSn
        clear HXn HSn
        obtain ⟨k1a, k1b, k1c, k1d, -⟩ : N2 Y10 (w.heap.size + 1) tb lb := HX.out.1 1 _ rfl
        obtain ⟨k2a, k2b, k2c, k2d, -⟩ : N2 Y10 (w.heap.size + 1 + 1) tc lc := HX.out.1 2 _ rfl
        go_wp2_with fail
        (with_reducible refine (H11.out _).mono ?_)
        rintro e w11 ⟨rfl, hB⟩
        clear k1a k1b k1c k1d k2a k2b k2c k2d
        have HXn := Lib.hid (HX.out.keep hB)
        have HSn := Lib.hid (stepB HS.out hB)
        clear hB HX HS
        have HX := HXn
        have HS := HSn
        clear HXn HSn
        obtain ⟨k10a, k10b, k10c, k10d, -⟩ : N2 w11 (w8.heap.size) z1 z2 := HX.out.1 10 _ rfl
        go_upto_region 19 with fail
        clear k10a k10b k10c k10d
        generalize hY : (w11.setCell ⟨w8.heap.size, 0, none⟩ (.int .i64 k1)).setCell ⟨w8.heap.size, 1, none⟩ (.int .i64 k2) = Y11
        have HXn : Hid (Bxs Y11 [(w.heap.size, ta, la), (w.heap.size + 1, tb, lb), (w.heap.size + 1 + 1, tc, lc), (w1.heap.size, p1, p2), (w2.heap.size, p1, p2), (w3.heap.size, r1, r2), (w4.heap.size, r1, r2), (w5.heap.size, x1, x2), (w6.heap.size, u1, u2), (w7.heap.size, v1, v2), (w8.heap.size, k1, k2)]) := by
          subst hY
          exact HX.out.set 10 (g := w8.heap.size) (a := z1) (b := z2) rfl k1 k2
        have HSn : Hid (Below w.heap.size w Y11) := by
          subst hY
          exact set2_below HS.out (HG10.out) _ _
        clear hY HX HS
        have HX := HXn
        have HS := HSn
        clear HXn HSn
        obtain ⟨k9a, k9b, k9c, k9d, -⟩ : N2 Y11 (w7.heap.size) v1 v2 := HX.out.1 9 _ rfl
        obtain ⟨k10a, k10b, k10c, k10d, -⟩ : N2 Y11 (w8.heap.size) k1 k2 := HX.out.1 10 _ rfl
        go_wp2_with fail
        (with_reducible refine (H12.out _).mono ?_)
        rintro e w12 ⟨rfl, hB⟩
        clear k9a k9b k9c k9d k10a k10b k10c k10d
        have HXn := Lib.hid (HX.out.keep hB)
        have HSn := Lib.hid (stepB HS.out hB)
        clear hB HX HS
        have HX := HXn
        have HS := HSn
        clear HXn HSn
        go_upto_region 20 with fail
        have HG11 := Lib.hid HS.out.size
        generalize hY : w12.alloc (.cells #[.int .i64 m1, .int .i64 m2] 23) = Y12
        have HXn : Hid (Bxs Y12 [(w.heap.size, ta, la), (w.heap.size + 1, tb, lb), (w.heap.size + 1 + 1, tc, lc), (w1.heap.size, p1, p2), (w2.heap.size, p1, p2), (w3.heap.size, r1, r2), (w4.heap.size, r1, r2), (w5.heap.size, x1, x2), (w6.heap.size, u1, u2), (w7.heap.size, v1, v2), (w8.heap.size, k1, k2), (w12.heap.size, m1, m2)]) := by
          subst hY
          exact HX.out.new m1 m2
        have HSn : Hid (Below w.heap.size w Y12) := by
          subst hY
          exact HS.out.alloc HS.out.size _
        clear hY HX HS
        have HX := HXn
        have HS := HSn
        clear HXn HSn
        go_cut [165] (fun t wx => t = .bool false ∧ Y12 = wx)
        case first => as_aux_lemma =>
          by_cases hcu0 : u0 ≠ 0
          · skip
            have hb : (u0 == 0) = false := beq_eq_false_iff_ne.2 hcu0
            clear hcu0
            go_wp2_with fail
            all_goals go_meet
            all_goals exact ⟨rfl, rfl⟩
          obtain rfl : u0 = 0 := Decidable.not_not.1 hcu0
          clear hcu0
          by_cases hcv0 : v0 ≠ 0
          · skip
            have hb : (v0 == 0) = false := beq_eq_false_iff_ne.2 hcv0
            clear hcv0
            go_wp2_with fail
            all_goals go_meet
            all_goals exact ⟨rfl, rfl⟩
          obtain rfl : v0 = 0 := Decidable.not_not.1 hcv0
          clear hcv0
          by_cases hck0 : k0 ≠ 0
          · skip
            have hb : (k0 == 0) = false := beq_eq_false_iff_ne.2 hck0
            clear hck0
            go_wp2_with fail
            all_goals go_meet
            all_goals exact ⟨rfl, rfl⟩
          obtain rfl : k0 = 0 := Decidable.not_not.1 hck0
          clear hck0
          by_cases hcm0 : m0 ≠ 0
          · skip
            have hb : (m0 == 0) = false := beq_eq_false_iff_ne.2 hcm0
            clear hcm0
            go_wp2_with fail
            all_goals go_meet
            all_goals exact ⟨rfl, rfl⟩
          obtain rfl : m0 = 0 := Decidable.not_not.1 hcm0
          clear hcm0
          obtain ⟨g1, g2⟩ := F3.out (by trivial) (by trivial) (by trivial) (by trivial) (by trivial)
          have g3 := g1.symm
          have g4 := g2.symm
          clear g1 g2
          subst g3
          subst g4
          obtain ⟨k8a, k8b, k8c, k8d, -⟩ : N2 Y12 (w6.heap.size) m1 m2 := HX.out.1 8 _ rfl
          obtain ⟨k11a, k11b, k11c, k11d, -⟩ : N2 Y12 (w12.heap.size) m1 m2 := HX.out.1 11 _ rfl
          go_wp2_with fail
          all_goals go_meet
          all_goals exact ⟨rfl, rfl⟩
        case rest => as_aux_lemma =>
          obtain ⟨rfl, rfl⟩ := hcut
          go_wp2_with fail
          all_goals go_meet
          all_goals exact ⟨HX.out.take 7, HS.out⟩
  case rest => as_aux_lemma =>
    have HX1 := Lib.hid hcut.1
    have HS1 := Lib.hid hcut.2
    clear hcut HX HS
    have HX := HX1
    have HS := HS1
    clear HX1 HS1
    by_cases hr : r0 ≠ 0
    · skip
      have hb : (r0 != 0) = true := bne_iff_ne.2 hr
      clear hr
      go_wp2_with fail
      (with_reducible refine (awake_any _).mono ?_)
      rintro e wa ⟨rfl, hB⟩
      have hb := stepB HS.out hB
      clear hB HX HS
      go_wp2_with fail
      go_ret
      exact ⟨rfl, hb⟩
    obtain rfl : r0 = 0 := Decidable.not_not.1 hr
    clear hr
    go_upto_region 24 with fail
    obtain ⟨k5a, k5b, k5c, k5d, -⟩ : N2 wc (w3.heap.size) r1 r2 := HX.out.1 5 _ rfl
    obtain ⟨k1a, k1b, k1c, k1d, -⟩ : N2 wc (w.heap.size + 1) tb lb := HX.out.1 1 _ rfl
    go_wp2_with fail
    (with_reducible refine (H13.out _).mono ?_)
    rintro e w13 ⟨rfl, hB⟩
    clear k5a k5b k5c k5d k1a k1b k1c k1d
    have HXn := Lib.hid (HX.out.keep hB)
    have HSn := Lib.hid (stepB HS.out hB)
    clear hB HX HS
    have HX := HXn
    have HS := HSn
    clear HXn HSn
    go_upto_region 25 with fail
    have HG7 := Lib.hid HS.out.size
    generalize hY : w13.alloc (.cells #[.int .i64 d1, .int .i64 d2] 23) = Y13
    have HXn : Hid (Bxs Y13 [(w.heap.size, ta, la), (w.heap.size + 1, tb, lb), (w.heap.size + 1 + 1, tc, lc), (w1.heap.size, p1, p2), (w2.heap.size, p1, p2), (w3.heap.size, r1, r2), (w4.heap.size, r1, r2), (w13.heap.size, d1, d2)]) := by
      subst hY
      exact HX.out.new d1 d2
    have HSn : Hid (Below w.heap.size w Y13) := by
      subst hY
      exact HS.out.alloc HS.out.size _
    clear hY HX HS
    have HX := HXn
    have HS := HSn
    clear HXn HSn
    go_cut [181] (fun t wx => t = .bool false ∧ Y13 = wx)
    case first => as_aux_lemma =>
      by_cases hcd0 : d0 ≠ 0
      · skip
        have hb : (d0 == 0) = false := beq_eq_false_iff_ne.2 hcd0
        clear hcd0
        go_wp2_with fail
        all_goals go_meet
        all_goals exact ⟨rfl, rfl⟩
      obtain rfl : d0 = 0 := Decidable.not_not.1 hcd0
      clear hcd0
      obtain ⟨g1, g2⟩ := F4.out (by trivial) (by trivial)
      have g3 := g1.symm
      have g4 := g2.symm
      clear g1 g2
      subst g3
      subst g4
      obtain ⟨k7a, k7b, k7c, k7d, -⟩ : N2 Y13 (w13.heap.size) ta la := HX.out.1 7 _ rfl
      obtain ⟨k0a, k0b, k0c, k0d, -⟩ : N2 Y13 (w.heap.size) ta la := HX.out.1 0 _ rfl
      go_wp2_with fail
      all_goals go_meet
      all_goals exact ⟨rfl, rfl⟩
    case rest => as_aux_lemma =>
      obtain ⟨rfl, rfl⟩ := hcut
      go_upto_region 27 with fail
      obtain ⟨k5a, k5b, k5c, k5d, -⟩ : N2 Y13 (w3.heap.size) r1 r2 := HX.out.1 5 _ rfl
      obtain ⟨k2a, k2b, k2c, k2d, -⟩ : N2 Y13 (w.heap.size + 1 + 1) tc lc := HX.out.1 2 _ rfl
      go_wp2_with fail
      (with_reducible refine (H14.out _).mono ?_)
      rintro e w14 ⟨rfl, hB⟩
      clear k5a k5b k5c k5d k2a k2b k2c k2d
      have HXn := Lib.hid (HX.out.keep hB)
      have HSn := Lib.hid (stepB HS.out hB)
      clear hB HX HS
      have HX := HXn
      have HS := HSn
      clear HXn HSn
      go_upto_region 28 with fail
      have HG8 := Lib.hid HS.out.size
      generalize hY : w14.alloc (.cells #[.int .i64 o1, .int .i64 o2] 23) = Y14
      have HXn : Hid (Bxs Y14 [(w.heap.size, ta, la), (w.heap.size + 1, tb, lb), (w.heap.size + 1 + 1, tc, lc), (w1.heap.size, p1, p2), (w2.heap.size, p1, p2), (w3.heap.size, r1, r2), (w4.heap.size, r1, r2), (w13.heap.size, d1, d2), (w14.heap.size, o1, o2)]) := by
        subst hY
        exact HX.out.new o1 o2
      have HSn : Hid (Below w.heap.size w Y14) := by
        subst hY
        exact HS.out.alloc HS.out.size _
      clear hY HX HS
      have HX := HXn
      have HS := HSn
      clear HXn HSn
      obtain ⟨k1a, k1b, k1c, k1d, -⟩ : N2 Y14 (w.heap.size + 1) tb lb := HX.out.1 1 _ rfl
      obtain ⟨k2a, k2b, k2c, k2d, -⟩ : N2 Y14 (w.heap.size + 1 + 1) tc lc := HX.out.1 2 _ rfl
      go_wp2_with fail
      (with_reducible refine (H15.out _).mono ?_)
      rintro e w15 ⟨rfl, hB⟩
      clear k1a k1b k1c k1d k2a k2b k2c k2d
      have HXn := Lib.hid (HX.out.keep hB)
      have HSn := Lib.hid (stepB HS.out hB)
      clear hB HX HS
      have HX := HXn
      have HS := HSn
      clear HXn HSn
      go_upto_region 29 with fail
      have HG9 := Lib.hid HS.out.size
      generalize hY : w15.alloc (.cells #[.int .i64 q1, .int .i64 q2] 23) = Y15
      have HXn : Hid (Bxs Y15 [(w.heap.size, ta, la), (w.heap.size + 1, tb, lb), (w.heap.size + 1 + 1, tc, lc), (w1.heap.size, p1, p2), (w2.heap.size, p1, p2), (w3.heap.size, r1, r2), (w4.heap.size, r1, r2), (w13.heap.size, d1, d2), (w14.heap.size, o1, o2), (w15.heap.size, q1, q2)]) := by
        subst hY
        exact HX.out.new q1 q2
      have HSn : Hid (Below w.heap.size w Y15) := by
        subst hY
        exact HS.out.alloc HS.out.size _
      clear hY HX HS
      have HX := HXn
      have HS := HSn
      clear HXn HSn
      obtain ⟨k0a, k0b, k0c, k0d, -⟩ : N2 Y15 (w.heap.size) ta la := HX.out.1 0 _ rfl
      obtain ⟨k9a, k9b, k9c, k9d, -⟩ : N2 Y15 (w15.heap.size) q1 q2 := HX.out.1 9 _ rfl
      go_wp2_with fail
      (with_reducible refine (H16.out _).mono ?_)
      rintro e w16 ⟨rfl, hB⟩
      clear k0a k0b k0c k0d k9a k9b k9c k9d
      have HXn := Lib.hid (HX.out.keep hB)
      have HSn := Lib.hid (stepB HS.out hB)
      clear hB HX HS
      have HX := HXn
      have HS := HSn
      clear HXn HSn
      go_upto_region 30 with fail
      have HG10 := Lib.hid HS.out.size
      generalize hY : w16.alloc (.cells #[.int .i64 h1, .int .i64 h2] 23) = Y16
      have HXn : Hid (Bxs Y16 [(w.heap.size, ta, la), (w.heap.size + 1, tb, lb), (w.heap.size + 1 + 1, tc, lc), (w1.heap.size, p1, p2), (w2.heap.size, p1, p2), (w3.heap.size, r1, r2), (w4.heap.size, r1, r2), (w13.heap.size, d1, d2), (w14.heap.size, o1, o2), (w15.heap.size, q1, q2), (w16.heap.size, h1, h2)]) := by
        subst hY
        exact HX.out.new h1 h2
      have HSn : Hid (Below w.heap.size w Y16) := by
        subst hY
        exact HS.out.alloc HS.out.size _
      clear hY HX HS
      have HX := HXn
      have HS := HSn
      clear HXn HSn
      by_cases hco0 : o0 ≠ 0
      · skip
        have hb : (o0 != 0) = true := bne_iff_ne.2 hco0
        clear hco0
        go_wp2_with fail
        (with_reducible refine (awake_any _).mono ?_)
        rintro e wa ⟨rfl, hB⟩
        have hb := stepB HS.out hB
        clear hB HX HS
        go_wp2_with fail
        go_ret
        exact ⟨rfl, hb⟩
      obtain rfl : o0 = 0 := Decidable.not_not.1 hco0
      clear hco0
      by_cases hcq0 : q0 ≠ 0
      · skip
        have hb : (q0 != 0) = true := bne_iff_ne.2 hcq0
        clear hcq0
        go_wp2_with fail
        (with_reducible refine (awake_any _).mono ?_)
        rintro e wa ⟨rfl, hB⟩
        have hb := stepB HS.out hB
        clear hB HX HS
        go_wp2_with fail
        go_ret
        exact ⟨rfl, hb⟩
      obtain rfl : q0 = 0 := Decidable.not_not.1 hcq0
      clear hcq0
      by_cases hch0 : h0 ≠ 0
      · skip
        have hb : (h0 != 0) = true := bne_iff_ne.2 hch0
        clear hch0
        go_wp2_with fail
        (with_reducible refine (awake_any _).mono ?_)
        rintro e wa ⟨rfl, hB⟩
        have hb := stepB HS.out hB
        clear hB HX HS
        go_wp2_with fail
        go_ret
        exact ⟨rfl, hb⟩
      obtain rfl : h0 = 0 := Decidable.not_not.1 hch0
      clear hch0
      obtain ⟨g1, g2⟩ := F5.out (by trivial) (by trivial) (by trivial) (by trivial)
      have g3 := g1.symm
      have g4 := g2.symm
      clear g1 g2
      subst g3
      subst g4
      obtain ⟨k8a, k8b, k8c, k8d, -⟩ : N2 Y16 (w14.heap.size) h1 h2 := HX.out.1 8 _ rfl
      obtain ⟨k10a, k10b, k10c, k10d, -⟩ : N2 Y16 (w16.heap.size) h1 h2 := HX.out.1 10 _ rfl
      go_wp2_with fail
      (with_reducible refine (awake_any _).mono ?_)
      rintro e wa ⟨rfl, hB⟩
      have hb := stepB HS.out hB
      clear hB HX HS
      go_wp2_with fail
      go_ret
      exact ⟨rfl, hb⟩

end Go.Proofs.Ytjoanclnaeephaa
