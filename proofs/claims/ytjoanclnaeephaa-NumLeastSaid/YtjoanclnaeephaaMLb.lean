/- diceboxlaw01.NumLeast: the walk. diceboxlaw01.NumLeast: the law for all numbers. -/
import Derived.Test.YtjoanclnaeephaaMLa
import Derived.Test.YtjoanclnaeephaaMRe
import Derived.Test.YtjoanclnaeephaaMPb

namespace Go.Proofs.Ytjoanclnaeephaa
open Go.RowKit

/-- The boxes of three numbers, and of a fourth. -/
structure FL (w : World) (gp : Nat) (a b a' b' c d p q : Value) (wx : World) : Prop where
  below : Below w.heap.size w wx
  ba : B2n w.heap.size a b wx
  bb : B2n (w.heap.size + 1) a' b' wx
  bc : B2n (w.heap.size + 1 + 1) c d wx
  bp : B2n gp p q wx
theorem FL.keep {w : World} {gp : Nat} {a b a' b' c d p q : Value} (wx wy : World) (h : FL w gp a b a' b' c d p q wx) (hb : Below wx.heap.size wx wy) : FL w gp a b a' b' c d p q wy :=
  ⟨h.below.trans (hb.mono h.below.size), h.ba.keep hb, h.bb.keep hb, h.bc.keep hb, h.bp.keep hb⟩

set_option maxRecDepth 100000 in
set_option maxHeartbeats 20000000 in
theorem least_err (t1 l1 t2 l2 t3 l3 p1 p2 : Int) (e1 : Int) (w : World) (he : (e1 != 0) = true) (H1 : Hid (∀ wx, Calls Try.prog 15 #[.agg #[.int .i64 t1, .int .i64 l1], .agg #[.int .i64 t2, .int .i64 l2]] wx (Rt p1 p2 e1 wx))) (HA : Hid (∀ wx, Calls Try.prog 13 #[] wx fun e w' => e = .returned (.bool true) ∧ Below wx.heap.size wx w')) : Calls Try.prog 6 #[.agg #[.int .i64 t1, .int .i64 l1], .agg #[.int .i64 t2, .int .i64 l2], .agg #[.int .i64 t3, .int .i64 l3]] w fun e w' => e = .returned (.bool true) ∧ Below w.heap.size w w' := by
  go_enter Try.func6, Try.ntmps6
  go_upto_region 1 with fail
  generalize hX : ((w.alloc _).alloc _).alloc _ = X
  have HX : Hid (Below w.heap.size w X ∧ B2n w.heap.size (.int .i64 t1) (.int .i64 l1) X ∧ B2n (w.heap.size + 1) (.int .i64 t2) (.int .i64 l2) X ∧ B2n (w.heap.size + 1 + 1) (.int .i64 t3) (.int .i64 l3) X) := by
    subst hX
    exact ⟨(((Below.refl _ _).alloc (Nat.le_refl _) _).alloc (by simp) _).alloc (by simp; omega) _, by simp [B2n, go_sem], by simp [B2n, go_sem], by simp [B2n, go_sem]⟩
  clear hX
  obtain ⟨k0, k1, -⟩ := HX.out.2.1
  obtain ⟨j0, j1, -⟩ := HX.out.2.2.1
  go_wp2_with fail
  (with_reducible refine (H1.out _).mono ?_)
  rintro e w1 ⟨rfl, hB1⟩
  have H1B := Lib.hid hB1
  clear k0 k1 j0 j1 hB1 H1
  have HB := Lib.hid (HX.out.1.trans (H1B.out.mono HX.out.1.size))
  go_upto_region 3 with fail
  generalize hY : w1.alloc _ = Y
  have HYB : Hid (Below w.heap.size w Y) := by
    subst hY
    exact HB.out.alloc HB.out.size _
  clear hY HB HX H1B
  go_wp2_with fail
  (with_reducible refine (HA.out _).mono ?_)
  rintro e wa ⟨rfl, hB⟩
  have hb := stepB HYB.out hB
  clear hB HYB
  go_wp2_with fail
  go_ret
  exact ⟨rfl, hb⟩

set_option maxRecDepth 100000 in
set_option maxHeartbeats 20000000 in
theorem least_inv (t1 l1 t2 l2 t3 l3 p1 p2 : Int) (q1 q2 : Int) (x y z : Rat) (w : World) (hq1 : decide (0 < q1) = false) (hq2 : decide (0 < q2) = false) 
    (H1 : Hid (∀ wx, Calls Try.prog 15 #[.agg #[.int .i64 t1, .int .i64 l1], .agg #[.int .i64 t2, .int .i64 l2]] wx (Rt p1 p2 0 wx))) (HA : Hid (∀ wx, Calls Try.prog 13 #[] wx fun e w' => e = .returned (.bool true) ∧ Below wx.heap.size wx w'))
    (HVp : Hid (∀ wx, Calls Try.prog 17 #[.agg #[.int .i64 p1, .int .i64 p2]] wx (RetV (.val (.bool true)) wx))) (HTa : Hid (∀ wx, Calls Try.prog 18 #[.agg #[.int .i64 t1, .int .i64 l1]] wx (RetV (.rat x) wx))) (HTb : Hid (∀ wx, Calls Try.prog 18 #[.agg #[.int .i64 t2, .int .i64 l2]] wx (RetV (.rat y) wx))) (HTp : Hid (∀ wx, Calls Try.prog 18 #[.agg #[.int .i64 p1, .int .i64 p2]] wx (RetV (.rat z) wx)))
    (HQ1 : Hid (∀ wx u u', RFV wx u x → RFV wx u' z → Calls Try.prog 19 #[u, u'] wx (RetV (.val (.int .i64 q1)) wx))) (HQ2 : Hid (∀ wx u u', RFV wx u z → RFV wx u' y → Calls Try.prog 19 #[u, u'] wx (RetV (.val (.int .i64 q2)) wx)))
    (HVc : Hid (∀ wx, Calls Try.prog 17 #[.agg #[.int .i64 t3, .int .i64 l3]] wx (RetV (.val (.bool false)) wx))) :
    Calls Try.prog 6 #[.agg #[.int .i64 t1, .int .i64 l1], .agg #[.int .i64 t2, .int .i64 l2], .agg #[.int .i64 t3, .int .i64 l3]] w fun e w' => e = .returned (.bool true) ∧ Below w.heap.size w w' := by
  go_enter Try.func6, Try.ntmps6
  go_upto_region 1 with fail
  generalize hX : ((w.alloc _).alloc _).alloc _ = X
  have HX : Hid (Below w.heap.size w X ∧ B2n w.heap.size (.int .i64 t1) (.int .i64 l1) X ∧ B2n (w.heap.size + 1) (.int .i64 t2) (.int .i64 l2) X ∧ B2n (w.heap.size + 1 + 1) (.int .i64 t3) (.int .i64 l3) X) := by
    subst hX
    exact ⟨(((Below.refl _ _).alloc (Nat.le_refl _) _).alloc (by simp) _).alloc (by simp; omega) _, by simp [B2n, go_sem], by simp [B2n, go_sem], by simp [B2n, go_sem]⟩
  clear hX
  obtain ⟨k0, k1, -⟩ := HX.out.2.1
  obtain ⟨j0, j1, -⟩ := HX.out.2.2.1
  go_wp2_with fail
  (with_reducible refine (H1.out _).mono ?_)
  rintro e w1 ⟨rfl, hB1⟩
  have H1B := Lib.hid hB1
  clear k0 k1 j0 j1 hB1 H1
  go_upto_region 4 with fail
  generalize hY : w1.alloc _ = Y
  have HY : Hid (FL w w1.heap.size (.int .i64 t1) (.int .i64 l1) (.int .i64 t2) (.int .i64 l2) (.int .i64 t3) (.int .i64 l3) (.int .i64 p1) (.int .i64 p2) Y) := by
    have hB : Below w1.heap.size w1 Y := by subst hY; exact below_alloc _ _
    have hXY : Below X.heap.size X Y := stepB H1B.out hB
    exact ⟨HX.out.1.trans (hXY.mono HX.out.1.size), HX.out.2.1.keep hXY, HX.out.2.2.1.keep hXY, HX.out.2.2.2.keep hXY, by subst hY; simp [B2n, go_sem]⟩
  clear hY HX H1B
  generalize w1.heap.size = gp at HY ⊢
  clear w1
  refine wp_region_flow 19 [18, 19, 20, 21, 22, 23, 24, 25, 26, 27, 28, 29, 30, 31, 32, 33, 34, 35, 36] (fun i => 18 + i) (FL w gp (.int .i64 t1) (.int .i64 l1) (.int .i64 t2) (.int .i64 l2) (.int .i64 t3) (.int .i64 l3) (.int .i64 p1) (.int .i64 p2)) (Spl [.val (.agg #[.int .i64 p1, .int .i64 p2]), .val (.bool true), .val (.bool false), .val (.bool false), .val (.agg #[.int .i64 t1, .int .i64 l1]), .rat x, .val (.agg #[.int .i64 p1, .int .i64 p2]), .rat z, .val (.int .i64 q1), .val (.bool false), .val (.bool false), .val (.bool false), .val (.agg #[.int .i64 p1, .int .i64 p2]), .rat z, .val (.agg #[.int .i64 t2, .int .i64 l2]), .rat y, .val (.int .i64 q2), .val (.bool false), .val (.bool false)]) (by kernel_rfl) (by kernel_rfl) (by kernel_rfl) (by kernel_rfl) (fun i j _ _ h => Nat.add_left_cancel (show 18 + i = 18 + j from h)) (by decide) FL.keep Spl.keep ?_ ?_ ?_
  · exact HY.out.keep _ _ (Below.drew (Below.refl _ _))
  · intro i v wx o T' K ho hF hdep hin hout hK
    have hi : i < 19 := (Array.getElem?_eq_some_iff.1 ho).1
    have q18 := hin 18 (by decide)
    have q19 := hin 19 (by decide)
    have q20 := hin 20 (by decide)
    have q21 := hin 21 (by decide)
    have q22 := hin 22 (by decide)
    have q23 := hin 23 (by decide)
    have q24 := hin 24 (by decide)
    have q25 := hin 25 (by decide)
    have q26 := hin 26 (by decide)
    have q27 := hin 27 (by decide)
    have q28 := hin 28 (by decide)
    have q29 := hin 29 (by decide)
    have q30 := hin 30 (by decide)
    have q31 := hin 31 (by decide)
    have q32 := hin 32 (by decide)
    have q33 := hin 33 (by decide)
    have q34 := hin 34 (by decide)
    have q35 := hin 35 (by decide)
    have q36 := hin 36 (by decide)
    have sl3 : T'[3]? = some (.pointer (some ⟨w.heap.size, 0, none⟩)) := (hout 3 (by decide)).trans rfl
    have sl4 : T'[4]? = some (.pointer (some ⟨w.heap.size + 1, 0, none⟩)) := (hout 4 (by decide)).trans rfl
    have sl7 : T'[7]? = some (.pointer (some ⟨gp, 0, none⟩)) := (hout 7 (by decide)).trans rfl
    clear hin hout
    have HF := Lib.hid hF
    have HD := Lib.hid hdep
    clear hF hdep
    rcases (by omega : i = 0 ∨ i = 1 ∨ i = 2 ∨ i = 3 ∨ i = 4 ∨ i = 5 ∨ i = 6 ∨ i = 7 ∨ i = 8 ∨ i = 9 ∨ i = 10 ∨ i = 11 ∨ i = 12 ∨ i = 13 ∨ i = 14 ∨ i = 15 ∨ i = 16 ∨ i = 17 ∨ i = 18) with rfl | rfl | rfl | rfl | rfl | rfl | rfl | rfl | rfl | rfl | rfl | rfl | rfl | rfl | rfl | rfl | rfl | rfl | rfl
    · obtain rfl := Option.some.inj ho
      obtain ⟨k0, k1, k2⟩ := HF.out.bp
      have hP := (rfl : Value.agg #[.int .i64 p1, .int .i64 p2] = .agg #[.int .i64 p1, .int .i64 p2])
      clear q18 q19 q20 q21 q22 q23 q24 q25 q26 q27 q28 q29 q30 q31 q32 q33 q34 q35 q36 sl3 sl4 ho hi
      go_simp
      exact hK _ _ (Below.refl _ _) hP
    · obtain rfl := Option.some.inj ho
      have e0 : v 18 = (.agg #[.int .i64 p1, .int .i64 p2]) := HD.out ⟨0, .data⟩ (by simp) rfl
      rw [e0] at q18
      clear q19 q20 q21 q22 q23 q24 q25 q26 q27 q28 q29 q30 q31 q32 q33 q34 q35 q36 sl3 sl4 sl7 ho hi
      go_simp
      (with_reducible refine (HVp.out _).mono ?_)
      rintro e w2 ⟨u, rfl, hu, hB⟩
      exact hK _ _ hB hu
    · obtain rfl := Option.some.inj ho
      have e0 : v 19 = (.bool true) := HD.out ⟨1, .data⟩ (by simp) rfl
      rw [e0] at q19
      clear q18 q20 q21 q22 q23 q24 q25 q26 q27 q28 q29 q30 q31 q32 q33 q34 q35 q36 sl3 sl4 sl7 ho hi
      go_simp
      exact hK _ _ (Below.refl _ _) rfl
    · obtain rfl := Option.some.inj ho
      have e0 : v 20 = (.bool false) := HD.out ⟨2, .data⟩ (by simp) rfl
      rw [e0] at q20
      clear q18 q19 q21 q22 q23 q24 q25 q26 q27 q28 q29 q30 q31 q32 q33 q34 q35 q36 sl3 sl4 sl7 ho hi
      go_simp
      exact hK _ _ (Below.refl _ _) rfl
    · obtain rfl := Option.some.inj ho
      have eg : v 21 = (.bool false) := HD.out ⟨3, .guard⟩ (by simp) rfl
      rw [eg] at q21
      obtain ⟨k0, k1, k2⟩ := HF.out.ba
      have hP := (rfl : Value.agg #[.int .i64 t1, .int .i64 l1] = .agg #[.int .i64 t1, .int .i64 l1])
      clear q18 q19 q20 q22 q23 q24 q25 q26 q27 q28 q29 q30 q31 q32 q33 q34 q35 q36 sl4 sl7 ho hi
      go_simp
      exact hK _ _ (Below.refl _ _) hP
    · obtain rfl := Option.some.inj ho
      have eg : v 21 = (.bool false) := HD.out ⟨3, .guard⟩ (by simp) rfl
      rw [eg] at q21
      have e0 : v 22 = (.agg #[.int .i64 t1, .int .i64 l1]) := HD.out ⟨4, .data⟩ (by simp) rfl
      rw [e0] at q22
      clear q18 q19 q20 q23 q24 q25 q26 q27 q28 q29 q30 q31 q32 q33 q34 q35 q36 sl3 sl4 sl7 ho hi
      go_simp
      (with_reducible refine (HTa.out _).mono ?_)
      rintro e w2 ⟨u, rfl, hu, hB⟩
      exact hK _ _ hB hu
    · obtain rfl := Option.some.inj ho
      have eg : v 21 = (.bool false) := HD.out ⟨3, .guard⟩ (by simp) rfl
      rw [eg] at q21
      obtain ⟨k0, k1, k2⟩ := HF.out.bp
      have hP := (rfl : Value.agg #[.int .i64 p1, .int .i64 p2] = .agg #[.int .i64 p1, .int .i64 p2])
      clear q18 q19 q20 q22 q23 q24 q25 q26 q27 q28 q29 q30 q31 q32 q33 q34 q35 q36 sl3 sl4 ho hi
      go_simp
      exact hK _ _ (Below.refl _ _) hP
    · obtain rfl := Option.some.inj ho
      have eg : v 21 = (.bool false) := HD.out ⟨3, .guard⟩ (by simp) rfl
      rw [eg] at q21
      have e0 : v 24 = (.agg #[.int .i64 p1, .int .i64 p2]) := HD.out ⟨6, .data⟩ (by simp) rfl
      rw [e0] at q24
      clear q18 q19 q20 q22 q23 q25 q26 q27 q28 q29 q30 q31 q32 q33 q34 q35 q36 sl3 sl4 sl7 ho hi
      go_simp
      (with_reducible refine (HTp.out _).mono ?_)
      rintro e w2 ⟨u, rfl, hu, hB⟩
      exact hK _ _ hB hu
    · obtain rfl := Option.some.inj ho
      have eg : v 21 = (.bool false) := HD.out ⟨3, .guard⟩ (by simp) rfl
      rw [eg] at q21
      have h0 : RFV wx (v 23) x := HD.out ⟨5, .data⟩ (by simp) rfl
      have h1 : RFV wx (v 25) z := HD.out ⟨7, .data⟩ (by simp) rfl
      clear q18 q19 q20 q22 q24 q26 q27 q28 q29 q30 q31 q32 q33 q34 q35 q36 sl3 sl4 sl7 ho hi
      go_simp
      (with_reducible refine (HQ1.out _ _ _ h0 h1).mono ?_)
      rintro e w2 ⟨u, rfl, hu, hB⟩
      exact hK _ _ hB hu
    · obtain rfl := Option.some.inj ho
      have eg : v 21 = (.bool false) := HD.out ⟨3, .guard⟩ (by simp) rfl
      rw [eg] at q21
      have e0 : v 26 = (.int .i64 q1) := HD.out ⟨8, .data⟩ (by simp) rfl
      rw [e0] at q26
      clear q18 q19 q20 q22 q23 q24 q25 q27 q28 q29 q30 q31 q32 q33 q34 q35 q36 sl3 sl4 sl7 ho hi
      go_simp
      exact hK _ _ (Below.refl _ _) rfl
    · obtain rfl := Option.some.inj ho
      have e0 : v 21 = (.bool false) := HD.out ⟨3, .data⟩ (by simp) rfl
      rw [e0] at q21
      have e1 : v 27 = (.bool false) := HD.out ⟨9, .data⟩ (by simp) rfl
      rw [e1] at q27
      clear q18 q19 q20 q22 q23 q24 q25 q26 q28 q29 q30 q31 q32 q33 q34 q35 q36 sl3 sl4 sl7 ho hi
      go_simp
      exact hK _ _ (Below.refl _ _) rfl
    · obtain rfl := Option.some.inj ho
      have e0 : v 28 = (.bool false) := HD.out ⟨10, .data⟩ (by simp) rfl
      rw [e0] at q28
      clear q18 q19 q20 q21 q22 q23 q24 q25 q26 q27 q29 q30 q31 q32 q33 q34 q35 q36 sl3 sl4 sl7 ho hi
      go_simp
      exact hK _ _ (Below.refl _ _) rfl
    · obtain rfl := Option.some.inj ho
      have eg : v 29 = (.bool false) := HD.out ⟨11, .guard⟩ (by simp) rfl
      rw [eg] at q29
      obtain ⟨k0, k1, k2⟩ := HF.out.bp
      have hP := (rfl : Value.agg #[.int .i64 p1, .int .i64 p2] = .agg #[.int .i64 p1, .int .i64 p2])
      clear q18 q19 q20 q21 q22 q23 q24 q25 q26 q27 q28 q30 q31 q32 q33 q34 q35 q36 sl3 sl4 ho hi
      go_simp
      exact hK _ _ (Below.refl _ _) hP
    · obtain rfl := Option.some.inj ho
      have eg : v 29 = (.bool false) := HD.out ⟨11, .guard⟩ (by simp) rfl
      rw [eg] at q29
      have e0 : v 30 = (.agg #[.int .i64 p1, .int .i64 p2]) := HD.out ⟨12, .data⟩ (by simp) rfl
      rw [e0] at q30
      clear q18 q19 q20 q21 q22 q23 q24 q25 q26 q27 q28 q31 q32 q33 q34 q35 q36 sl3 sl4 sl7 ho hi
      go_simp
      (with_reducible refine (HTp.out _).mono ?_)
      rintro e w2 ⟨u, rfl, hu, hB⟩
      exact hK _ _ hB hu
    · obtain rfl := Option.some.inj ho
      have eg : v 29 = (.bool false) := HD.out ⟨11, .guard⟩ (by simp) rfl
      rw [eg] at q29
      obtain ⟨k0, k1, k2⟩ := HF.out.bb
      have hP := (rfl : Value.agg #[.int .i64 t2, .int .i64 l2] = .agg #[.int .i64 t2, .int .i64 l2])
      clear q18 q19 q20 q21 q22 q23 q24 q25 q26 q27 q28 q30 q31 q32 q33 q34 q35 q36 sl3 sl7 ho hi
      go_simp
      exact hK _ _ (Below.refl _ _) hP
    · obtain rfl := Option.some.inj ho
      have eg : v 29 = (.bool false) := HD.out ⟨11, .guard⟩ (by simp) rfl
      rw [eg] at q29
      have e0 : v 32 = (.agg #[.int .i64 t2, .int .i64 l2]) := HD.out ⟨14, .data⟩ (by simp) rfl
      rw [e0] at q32
      clear q18 q19 q20 q21 q22 q23 q24 q25 q26 q27 q28 q30 q31 q33 q34 q35 q36 sl3 sl4 sl7 ho hi
      go_simp
      (with_reducible refine (HTb.out _).mono ?_)
      rintro e w2 ⟨u, rfl, hu, hB⟩
      exact hK _ _ hB hu
    · obtain rfl := Option.some.inj ho
      have eg : v 29 = (.bool false) := HD.out ⟨11, .guard⟩ (by simp) rfl
      rw [eg] at q29
      have h0 : RFV wx (v 31) z := HD.out ⟨13, .data⟩ (by simp) rfl
      have h1 : RFV wx (v 33) y := HD.out ⟨15, .data⟩ (by simp) rfl
      clear q18 q19 q20 q21 q22 q23 q24 q25 q26 q27 q28 q30 q32 q34 q35 q36 sl3 sl4 sl7 ho hi
      go_simp
      (with_reducible refine (HQ2.out _ _ _ h0 h1).mono ?_)
      rintro e w2 ⟨u, rfl, hu, hB⟩
      exact hK _ _ hB hu
    · obtain rfl := Option.some.inj ho
      have eg : v 29 = (.bool false) := HD.out ⟨11, .guard⟩ (by simp) rfl
      rw [eg] at q29
      have e0 : v 34 = (.int .i64 q2) := HD.out ⟨16, .data⟩ (by simp) rfl
      rw [e0] at q34
      clear q18 q19 q20 q21 q22 q23 q24 q25 q26 q27 q28 q30 q31 q32 q33 q35 q36 sl3 sl4 sl7 ho hi
      go_simp
      exact hK _ _ (Below.refl _ _) rfl
    · obtain rfl := Option.some.inj ho
      have e0 : v 29 = (.bool false) := HD.out ⟨11, .data⟩ (by simp) rfl
      rw [e0] at q29
      have e1 : v 35 = (.bool false) := HD.out ⟨17, .data⟩ (by simp) rfl
      rw [e1] at q35
      clear q18 q19 q20 q21 q22 q23 q24 q25 q26 q27 q28 q30 q31 q32 q33 q34 q36 sl3 sl4 sl7 ho hi
      go_simp
      exact hK _ _ (Below.refl _ _) rfl
  · intro v wx hF hall
    have h18 : v 36 = .bool false := hall 18 (by decide)
    have HF := Lib.hid hF
    clear hF hall
    simp only [over, List.setIfInBounds_toArray, List.set_cons_zero, List.set_cons_succ]
    rw [h18]
    generalize v 18 = v18
    generalize v 19 = v19
    generalize v 20 = v20
    generalize v 21 = v21
    generalize v 22 = v22
    generalize v 23 = v23
    generalize v 24 = v24
    generalize v 25 = v25
    generalize v 26 = v26
    generalize v 27 = v27
    generalize v 28 = v28
    generalize v 29 = v29
    generalize v 30 = v30
    generalize v 31 = v31
    generalize v 32 = v32
    generalize v 33 = v33
    generalize v 34 = v34
    generalize v 35 = v35
    clear HVp HTp HQ1 HQ2 hq1 hq2
    go_upto_region 6 with fail
    refine wp_region_flow 19 [37, 38, 39, 40, 41, 42, 43, 44, 45, 46, 47, 48, 49, 50, 51, 52, 53, 54, 55] (fun i => 37 + i) (FL w gp (.int .i64 t1) (.int .i64 l1) (.int .i64 t2) (.int .i64 l2) (.int .i64 t3) (.int .i64 l3) (.int .i64 p1) (.int .i64 p2)) (Spl [.val (.agg #[.int .i64 t3, .int .i64 l3]), .val (.bool false), .val (.bool true), .val (.bool true), .val undef, .val undef, .val undef, .val undef, .val undef, .val undef, .val (.bool true), .val (.bool true), .val undef, .val undef, .val undef, .val undef, .val undef, .val undef, .val (.bool true)]) (by kernel_rfl) (by kernel_rfl) (by kernel_rfl) (by kernel_rfl) (fun i j _ _ h => Nat.add_left_cancel (show 37 + i = 37 + j from h)) (by decide) FL.keep Spl.keep ?_ ?_ ?_
    · exact HF.out.keep _ _ (Below.drew (Below.refl _ _))
    · intro i v wx o T' K ho hF hdep hin hout hK
      have hi : i < 19 := (Array.getElem?_eq_some_iff.1 ho).1
      have q37 := hin 37 (by decide)
      have q38 := hin 38 (by decide)
      have q39 := hin 39 (by decide)
      have q40 := hin 40 (by decide)
      have q41 := hin 41 (by decide)
      have q42 := hin 42 (by decide)
      have q43 := hin 43 (by decide)
      have q44 := hin 44 (by decide)
      have q45 := hin 45 (by decide)
      have q46 := hin 46 (by decide)
      have q47 := hin 47 (by decide)
      have q48 := hin 48 (by decide)
      have q49 := hin 49 (by decide)
      have q50 := hin 50 (by decide)
      have q51 := hin 51 (by decide)
      have q52 := hin 52 (by decide)
      have q53 := hin 53 (by decide)
      have q54 := hin 54 (by decide)
      have q55 := hin 55 (by decide)
      have sl3 : T'[3]? = some (.pointer (some ⟨w.heap.size, 0, none⟩)) := (hout 3 (by decide)).trans rfl
      have sl4 : T'[4]? = some (.pointer (some ⟨w.heap.size + 1, 0, none⟩)) := (hout 4 (by decide)).trans rfl
      have sl5 : T'[5]? = some (.pointer (some ⟨w.heap.size + 1 + 1, 0, none⟩)) := (hout 5 (by decide)).trans rfl
      clear hin hout
      have HF := Lib.hid hF
      have HD := Lib.hid hdep
      clear hF hdep
      rcases (by omega : i = 0 ∨ i = 1 ∨ i = 2 ∨ i = 3 ∨ i = 4 ∨ i = 5 ∨ i = 6 ∨ i = 7 ∨ i = 8 ∨ i = 9 ∨ i = 10 ∨ i = 11 ∨ i = 12 ∨ i = 13 ∨ i = 14 ∨ i = 15 ∨ i = 16 ∨ i = 17 ∨ i = 18) with rfl | rfl | rfl | rfl | rfl | rfl | rfl | rfl | rfl | rfl | rfl | rfl | rfl | rfl | rfl | rfl | rfl | rfl | rfl
      · obtain rfl := Option.some.inj ho
        obtain ⟨k0, k1, k2⟩ := HF.out.bc
        have hP := (rfl : Value.agg #[.int .i64 t3, .int .i64 l3] = .agg #[.int .i64 t3, .int .i64 l3])
        clear q37 q38 q39 q40 q41 q42 q43 q44 q45 q46 q47 q48 q49 q50 q51 q52 q53 q54 q55 sl3 sl4 ho hi
        go_simp
        exact hK _ _ (Below.refl _ _) hP
      · obtain rfl := Option.some.inj ho
        have e0 : v 37 = (.agg #[.int .i64 t3, .int .i64 l3]) := HD.out ⟨0, .data⟩ (by simp) rfl
        rw [e0] at q37
        clear q38 q39 q40 q41 q42 q43 q44 q45 q46 q47 q48 q49 q50 q51 q52 q53 q54 q55 sl3 sl4 sl5 ho hi
        go_simp
        (with_reducible refine (HVc.out _).mono ?_)
        rintro e w2 ⟨u, rfl, hu, hB⟩
        exact hK _ _ hB hu
      · obtain rfl := Option.some.inj ho
        have e0 : v 38 = (.bool false) := HD.out ⟨1, .data⟩ (by simp) rfl
        rw [e0] at q38
        clear q37 q39 q40 q41 q42 q43 q44 q45 q46 q47 q48 q49 q50 q51 q52 q53 q54 q55 sl3 sl4 sl5 ho hi
        go_simp
        exact hK _ _ (Below.refl _ _) rfl
      · obtain rfl := Option.some.inj ho
        have e0 : v 39 = (.bool true) := HD.out ⟨2, .data⟩ (by simp) rfl
        rw [e0] at q39
        clear q37 q38 q40 q41 q42 q43 q44 q45 q46 q47 q48 q49 q50 q51 q52 q53 q54 q55 sl3 sl4 sl5 ho hi
        go_simp
        exact hK _ _ (Below.refl _ _) rfl
      · obtain rfl := Option.some.inj ho
        have eg : v 40 = (.bool true) := HD.out ⟨3, .guard⟩ (by simp) rfl
        rw [eg] at q40
        clear q37 q38 q39 q41 q42 q43 q44 q45 q46 q47 q48 q49 q50 q51 q52 q53 q54 q55 sl3 sl4 sl5 ho hi
        go_simp
        exact hK _ _ (Below.refl _ _) rfl
      · obtain rfl := Option.some.inj ho
        have eg : v 40 = (.bool true) := HD.out ⟨3, .guard⟩ (by simp) rfl
        rw [eg] at q40
        clear q37 q38 q39 q41 q42 q43 q44 q45 q46 q47 q48 q49 q50 q51 q52 q53 q54 q55 sl3 sl4 sl5 ho hi
        go_simp
        exact hK _ _ (Below.refl _ _) rfl
      · obtain rfl := Option.some.inj ho
        have eg : v 40 = (.bool true) := HD.out ⟨3, .guard⟩ (by simp) rfl
        rw [eg] at q40
        clear q37 q38 q39 q41 q42 q43 q44 q45 q46 q47 q48 q49 q50 q51 q52 q53 q54 q55 sl3 sl4 sl5 ho hi
        go_simp
        exact hK _ _ (Below.refl _ _) rfl
      · obtain rfl := Option.some.inj ho
        have eg : v 40 = (.bool true) := HD.out ⟨3, .guard⟩ (by simp) rfl
        rw [eg] at q40
        clear q37 q38 q39 q41 q42 q43 q44 q45 q46 q47 q48 q49 q50 q51 q52 q53 q54 q55 sl3 sl4 sl5 ho hi
        go_simp
        exact hK _ _ (Below.refl _ _) rfl
      · obtain rfl := Option.some.inj ho
        have eg : v 40 = (.bool true) := HD.out ⟨3, .guard⟩ (by simp) rfl
        rw [eg] at q40
        clear q37 q38 q39 q41 q42 q43 q44 q45 q46 q47 q48 q49 q50 q51 q52 q53 q54 q55 sl3 sl4 sl5 ho hi
        go_simp
        exact hK _ _ (Below.refl _ _) rfl
      · obtain rfl := Option.some.inj ho
        have eg : v 40 = (.bool true) := HD.out ⟨3, .guard⟩ (by simp) rfl
        rw [eg] at q40
        clear q37 q38 q39 q41 q42 q43 q44 q45 q46 q47 q48 q49 q50 q51 q52 q53 q54 q55 sl3 sl4 sl5 ho hi
        go_simp
        exact hK _ _ (Below.refl _ _) rfl
      · obtain rfl := Option.some.inj ho
        have e0 : v 40 = (.bool true) := HD.out ⟨3, .data⟩ (by simp) rfl
        rw [e0] at q40
        clear q37 q38 q39 q41 q42 q43 q44 q45 q46 q47 q48 q49 q50 q51 q52 q53 q54 q55 sl3 sl4 sl5 ho hi
        go_simp
        exact hK _ _ (Below.refl _ _) rfl
      · obtain rfl := Option.some.inj ho
        have e0 : v 47 = (.bool true) := HD.out ⟨10, .data⟩ (by simp) rfl
        rw [e0] at q47
        clear q37 q38 q39 q40 q41 q42 q43 q44 q45 q46 q48 q49 q50 q51 q52 q53 q54 q55 sl3 sl4 sl5 ho hi
        go_simp
        exact hK _ _ (Below.refl _ _) rfl
      · obtain rfl := Option.some.inj ho
        have eg : v 48 = (.bool true) := HD.out ⟨11, .guard⟩ (by simp) rfl
        rw [eg] at q48
        clear q37 q38 q39 q40 q41 q42 q43 q44 q45 q46 q47 q49 q50 q51 q52 q53 q54 q55 sl3 sl4 sl5 ho hi
        go_simp
        exact hK _ _ (Below.refl _ _) rfl
      · obtain rfl := Option.some.inj ho
        have eg : v 48 = (.bool true) := HD.out ⟨11, .guard⟩ (by simp) rfl
        rw [eg] at q48
        clear q37 q38 q39 q40 q41 q42 q43 q44 q45 q46 q47 q49 q50 q51 q52 q53 q54 q55 sl3 sl4 sl5 ho hi
        go_simp
        exact hK _ _ (Below.refl _ _) rfl
      · obtain rfl := Option.some.inj ho
        have eg : v 48 = (.bool true) := HD.out ⟨11, .guard⟩ (by simp) rfl
        rw [eg] at q48
        clear q37 q38 q39 q40 q41 q42 q43 q44 q45 q46 q47 q49 q50 q51 q52 q53 q54 q55 sl3 sl4 sl5 ho hi
        go_simp
        exact hK _ _ (Below.refl _ _) rfl
      · obtain rfl := Option.some.inj ho
        have eg : v 48 = (.bool true) := HD.out ⟨11, .guard⟩ (by simp) rfl
        rw [eg] at q48
        clear q37 q38 q39 q40 q41 q42 q43 q44 q45 q46 q47 q49 q50 q51 q52 q53 q54 q55 sl3 sl4 sl5 ho hi
        go_simp
        exact hK _ _ (Below.refl _ _) rfl
      · obtain rfl := Option.some.inj ho
        have eg : v 48 = (.bool true) := HD.out ⟨11, .guard⟩ (by simp) rfl
        rw [eg] at q48
        clear q37 q38 q39 q40 q41 q42 q43 q44 q45 q46 q47 q49 q50 q51 q52 q53 q54 q55 sl3 sl4 sl5 ho hi
        go_simp
        exact hK _ _ (Below.refl _ _) rfl
      · obtain rfl := Option.some.inj ho
        have eg : v 48 = (.bool true) := HD.out ⟨11, .guard⟩ (by simp) rfl
        rw [eg] at q48
        clear q37 q38 q39 q40 q41 q42 q43 q44 q45 q46 q47 q49 q50 q51 q52 q53 q54 q55 sl3 sl4 sl5 ho hi
        go_simp
        exact hK _ _ (Below.refl _ _) rfl
      · obtain rfl := Option.some.inj ho
        have e0 : v 48 = (.bool true) := HD.out ⟨11, .data⟩ (by simp) rfl
        rw [e0] at q48
        clear q37 q38 q39 q40 q41 q42 q43 q44 q45 q46 q47 q49 q50 q51 q52 q53 q54 q55 sl3 sl4 sl5 ho hi
        go_simp
        exact hK _ _ (Below.refl _ _) rfl
    · intro v wx hF hall
      have h18 : v 55 = .bool true := hall 18 (by decide)
      have HF := Lib.hid hF
      clear hF hall
      simp only [over, List.setIfInBounds_toArray, List.set_cons_zero, List.set_cons_succ]
      rw [h18]
      generalize v 37 = v37
      generalize v 38 = v38
      generalize v 39 = v39
      generalize v 40 = v40
      generalize v 41 = v41
      generalize v 42 = v42
      generalize v 43 = v43
      generalize v 44 = v44
      generalize v 45 = v45
      generalize v 46 = v46
      generalize v 47 = v47
      generalize v 48 = v48
      generalize v 49 = v49
      generalize v 50 = v50
      generalize v 51 = v51
      generalize v 52 = v52
      generalize v 53 = v53
      generalize v 54 = v54
      go_wp2_with fail
      (with_reducible refine (HA.out _).mono ?_)
      rintro e wa ⟨rfl, hB⟩
      have hb := stepB HF.out.below hB
      clear hB HF
      go_wp2_with fail
      go_ret
      exact ⟨rfl, hb⟩

set_option maxRecDepth 100000 in
set_option maxHeartbeats 20000000 in
theorem least_low (t1 l1 t2 l2 t3 l3 p1 p2 : Int) (q1 q2 q3 : Int) (x y z c : Rat) (w : World) (hq1 : decide (0 < q1) = false) (hq2 : decide (0 < q2) = false) (hq3 : decide (0 < q3) = true)
    (H1 : Hid (∀ wx, Calls Try.prog 15 #[.agg #[.int .i64 t1, .int .i64 l1], .agg #[.int .i64 t2, .int .i64 l2]] wx (Rt p1 p2 0 wx))) (HA : Hid (∀ wx, Calls Try.prog 13 #[] wx fun e w' => e = .returned (.bool true) ∧ Below wx.heap.size wx w'))
    (HVp : Hid (∀ wx, Calls Try.prog 17 #[.agg #[.int .i64 p1, .int .i64 p2]] wx (RetV (.val (.bool true)) wx))) (HTa : Hid (∀ wx, Calls Try.prog 18 #[.agg #[.int .i64 t1, .int .i64 l1]] wx (RetV (.rat x) wx))) (HTb : Hid (∀ wx, Calls Try.prog 18 #[.agg #[.int .i64 t2, .int .i64 l2]] wx (RetV (.rat y) wx))) (HTp : Hid (∀ wx, Calls Try.prog 18 #[.agg #[.int .i64 p1, .int .i64 p2]] wx (RetV (.rat z) wx)))
    (HQ1 : Hid (∀ wx u u', RFV wx u x → RFV wx u' z → Calls Try.prog 19 #[u, u'] wx (RetV (.val (.int .i64 q1)) wx))) (HQ2 : Hid (∀ wx u u', RFV wx u z → RFV wx u' y → Calls Try.prog 19 #[u, u'] wx (RetV (.val (.int .i64 q2)) wx)))
    (HVc : Hid (∀ wx, Calls Try.prog 17 #[.agg #[.int .i64 t3, .int .i64 l3]] wx (RetV (.val (.bool true)) wx))) (HTc : Hid (∀ wx, Calls Try.prog 18 #[.agg #[.int .i64 t3, .int .i64 l3]] wx (RetV (.rat c) wx))) (HQ3 : Hid (∀ wx u u', RFV wx u x → RFV wx u' c → Calls Try.prog 19 #[u, u'] wx (RetV (.val (.int .i64 q3)) wx))) :
    Calls Try.prog 6 #[.agg #[.int .i64 t1, .int .i64 l1], .agg #[.int .i64 t2, .int .i64 l2], .agg #[.int .i64 t3, .int .i64 l3]] w fun e w' => e = .returned (.bool true) ∧ Below w.heap.size w w' := by
  go_enter Try.func6, Try.ntmps6
  go_upto_region 1 with fail
  generalize hX : ((w.alloc _).alloc _).alloc _ = X
  have HX : Hid (Below w.heap.size w X ∧ B2n w.heap.size (.int .i64 t1) (.int .i64 l1) X ∧ B2n (w.heap.size + 1) (.int .i64 t2) (.int .i64 l2) X ∧ B2n (w.heap.size + 1 + 1) (.int .i64 t3) (.int .i64 l3) X) := by
    subst hX
    exact ⟨(((Below.refl _ _).alloc (Nat.le_refl _) _).alloc (by simp) _).alloc (by simp; omega) _, by simp [B2n, go_sem], by simp [B2n, go_sem], by simp [B2n, go_sem]⟩
  clear hX
  obtain ⟨k0, k1, -⟩ := HX.out.2.1
  obtain ⟨j0, j1, -⟩ := HX.out.2.2.1
  go_wp2_with fail
  (with_reducible refine (H1.out _).mono ?_)
  rintro e w1 ⟨rfl, hB1⟩
  have H1B := Lib.hid hB1
  clear k0 k1 j0 j1 hB1 H1
  go_upto_region 4 with fail
  generalize hY : w1.alloc _ = Y
  have HY : Hid (FL w w1.heap.size (.int .i64 t1) (.int .i64 l1) (.int .i64 t2) (.int .i64 l2) (.int .i64 t3) (.int .i64 l3) (.int .i64 p1) (.int .i64 p2) Y) := by
    have hB : Below w1.heap.size w1 Y := by subst hY; exact below_alloc _ _
    have hXY : Below X.heap.size X Y := stepB H1B.out hB
    exact ⟨HX.out.1.trans (hXY.mono HX.out.1.size), HX.out.2.1.keep hXY, HX.out.2.2.1.keep hXY, HX.out.2.2.2.keep hXY, by subst hY; simp [B2n, go_sem]⟩
  clear hY HX H1B
  generalize w1.heap.size = gp at HY ⊢
  clear w1
  refine wp_region_flow 19 [18, 19, 20, 21, 22, 23, 24, 25, 26, 27, 28, 29, 30, 31, 32, 33, 34, 35, 36] (fun i => 18 + i) (FL w gp (.int .i64 t1) (.int .i64 l1) (.int .i64 t2) (.int .i64 l2) (.int .i64 t3) (.int .i64 l3) (.int .i64 p1) (.int .i64 p2)) (Spl [.val (.agg #[.int .i64 p1, .int .i64 p2]), .val (.bool true), .val (.bool false), .val (.bool false), .val (.agg #[.int .i64 t1, .int .i64 l1]), .rat x, .val (.agg #[.int .i64 p1, .int .i64 p2]), .rat z, .val (.int .i64 q1), .val (.bool false), .val (.bool false), .val (.bool false), .val (.agg #[.int .i64 p1, .int .i64 p2]), .rat z, .val (.agg #[.int .i64 t2, .int .i64 l2]), .rat y, .val (.int .i64 q2), .val (.bool false), .val (.bool false)]) (by kernel_rfl) (by kernel_rfl) (by kernel_rfl) (by kernel_rfl) (fun i j _ _ h => Nat.add_left_cancel (show 18 + i = 18 + j from h)) (by decide) FL.keep Spl.keep ?_ ?_ ?_
  · exact HY.out.keep _ _ (Below.drew (Below.refl _ _))
  · intro i v wx o T' K ho hF hdep hin hout hK
    have hi : i < 19 := (Array.getElem?_eq_some_iff.1 ho).1
    have q18 := hin 18 (by decide)
    have q19 := hin 19 (by decide)
    have q20 := hin 20 (by decide)
    have q21 := hin 21 (by decide)
    have q22 := hin 22 (by decide)
    have q23 := hin 23 (by decide)
    have q24 := hin 24 (by decide)
    have q25 := hin 25 (by decide)
    have q26 := hin 26 (by decide)
    have q27 := hin 27 (by decide)
    have q28 := hin 28 (by decide)
    have q29 := hin 29 (by decide)
    have q30 := hin 30 (by decide)
    have q31 := hin 31 (by decide)
    have q32 := hin 32 (by decide)
    have q33 := hin 33 (by decide)
    have q34 := hin 34 (by decide)
    have q35 := hin 35 (by decide)
    have q36 := hin 36 (by decide)
    have sl3 : T'[3]? = some (.pointer (some ⟨w.heap.size, 0, none⟩)) := (hout 3 (by decide)).trans rfl
    have sl4 : T'[4]? = some (.pointer (some ⟨w.heap.size + 1, 0, none⟩)) := (hout 4 (by decide)).trans rfl
    have sl7 : T'[7]? = some (.pointer (some ⟨gp, 0, none⟩)) := (hout 7 (by decide)).trans rfl
    clear hin hout
    have HF := Lib.hid hF
    have HD := Lib.hid hdep
    clear hF hdep
    rcases (by omega : i = 0 ∨ i = 1 ∨ i = 2 ∨ i = 3 ∨ i = 4 ∨ i = 5 ∨ i = 6 ∨ i = 7 ∨ i = 8 ∨ i = 9 ∨ i = 10 ∨ i = 11 ∨ i = 12 ∨ i = 13 ∨ i = 14 ∨ i = 15 ∨ i = 16 ∨ i = 17 ∨ i = 18) with rfl | rfl | rfl | rfl | rfl | rfl | rfl | rfl | rfl | rfl | rfl | rfl | rfl | rfl | rfl | rfl | rfl | rfl | rfl
    · obtain rfl := Option.some.inj ho
      obtain ⟨k0, k1, k2⟩ := HF.out.bp
      have hP := (rfl : Value.agg #[.int .i64 p1, .int .i64 p2] = .agg #[.int .i64 p1, .int .i64 p2])
      clear q18 q19 q20 q21 q22 q23 q24 q25 q26 q27 q28 q29 q30 q31 q32 q33 q34 q35 q36 sl3 sl4 ho hi
      go_simp
      exact hK _ _ (Below.refl _ _) hP
    · obtain rfl := Option.some.inj ho
      have e0 : v 18 = (.agg #[.int .i64 p1, .int .i64 p2]) := HD.out ⟨0, .data⟩ (by simp) rfl
      rw [e0] at q18
      clear q19 q20 q21 q22 q23 q24 q25 q26 q27 q28 q29 q30 q31 q32 q33 q34 q35 q36 sl3 sl4 sl7 ho hi
      go_simp
      (with_reducible refine (HVp.out _).mono ?_)
      rintro e w2 ⟨u, rfl, hu, hB⟩
      exact hK _ _ hB hu
    · obtain rfl := Option.some.inj ho
      have e0 : v 19 = (.bool true) := HD.out ⟨1, .data⟩ (by simp) rfl
      rw [e0] at q19
      clear q18 q20 q21 q22 q23 q24 q25 q26 q27 q28 q29 q30 q31 q32 q33 q34 q35 q36 sl3 sl4 sl7 ho hi
      go_simp
      exact hK _ _ (Below.refl _ _) rfl
    · obtain rfl := Option.some.inj ho
      have e0 : v 20 = (.bool false) := HD.out ⟨2, .data⟩ (by simp) rfl
      rw [e0] at q20
      clear q18 q19 q21 q22 q23 q24 q25 q26 q27 q28 q29 q30 q31 q32 q33 q34 q35 q36 sl3 sl4 sl7 ho hi
      go_simp
      exact hK _ _ (Below.refl _ _) rfl
    · obtain rfl := Option.some.inj ho
      have eg : v 21 = (.bool false) := HD.out ⟨3, .guard⟩ (by simp) rfl
      rw [eg] at q21
      obtain ⟨k0, k1, k2⟩ := HF.out.ba
      have hP := (rfl : Value.agg #[.int .i64 t1, .int .i64 l1] = .agg #[.int .i64 t1, .int .i64 l1])
      clear q18 q19 q20 q22 q23 q24 q25 q26 q27 q28 q29 q30 q31 q32 q33 q34 q35 q36 sl4 sl7 ho hi
      go_simp
      exact hK _ _ (Below.refl _ _) hP
    · obtain rfl := Option.some.inj ho
      have eg : v 21 = (.bool false) := HD.out ⟨3, .guard⟩ (by simp) rfl
      rw [eg] at q21
      have e0 : v 22 = (.agg #[.int .i64 t1, .int .i64 l1]) := HD.out ⟨4, .data⟩ (by simp) rfl
      rw [e0] at q22
      clear q18 q19 q20 q23 q24 q25 q26 q27 q28 q29 q30 q31 q32 q33 q34 q35 q36 sl3 sl4 sl7 ho hi
      go_simp
      (with_reducible refine (HTa.out _).mono ?_)
      rintro e w2 ⟨u, rfl, hu, hB⟩
      exact hK _ _ hB hu
    · obtain rfl := Option.some.inj ho
      have eg : v 21 = (.bool false) := HD.out ⟨3, .guard⟩ (by simp) rfl
      rw [eg] at q21
      obtain ⟨k0, k1, k2⟩ := HF.out.bp
      have hP := (rfl : Value.agg #[.int .i64 p1, .int .i64 p2] = .agg #[.int .i64 p1, .int .i64 p2])
      clear q18 q19 q20 q22 q23 q24 q25 q26 q27 q28 q29 q30 q31 q32 q33 q34 q35 q36 sl3 sl4 ho hi
      go_simp
      exact hK _ _ (Below.refl _ _) hP
    · obtain rfl := Option.some.inj ho
      have eg : v 21 = (.bool false) := HD.out ⟨3, .guard⟩ (by simp) rfl
      rw [eg] at q21
      have e0 : v 24 = (.agg #[.int .i64 p1, .int .i64 p2]) := HD.out ⟨6, .data⟩ (by simp) rfl
      rw [e0] at q24
      clear q18 q19 q20 q22 q23 q25 q26 q27 q28 q29 q30 q31 q32 q33 q34 q35 q36 sl3 sl4 sl7 ho hi
      go_simp
      (with_reducible refine (HTp.out _).mono ?_)
      rintro e w2 ⟨u, rfl, hu, hB⟩
      exact hK _ _ hB hu
    · obtain rfl := Option.some.inj ho
      have eg : v 21 = (.bool false) := HD.out ⟨3, .guard⟩ (by simp) rfl
      rw [eg] at q21
      have h0 : RFV wx (v 23) x := HD.out ⟨5, .data⟩ (by simp) rfl
      have h1 : RFV wx (v 25) z := HD.out ⟨7, .data⟩ (by simp) rfl
      clear q18 q19 q20 q22 q24 q26 q27 q28 q29 q30 q31 q32 q33 q34 q35 q36 sl3 sl4 sl7 ho hi
      go_simp
      (with_reducible refine (HQ1.out _ _ _ h0 h1).mono ?_)
      rintro e w2 ⟨u, rfl, hu, hB⟩
      exact hK _ _ hB hu
    · obtain rfl := Option.some.inj ho
      have eg : v 21 = (.bool false) := HD.out ⟨3, .guard⟩ (by simp) rfl
      rw [eg] at q21
      have e0 : v 26 = (.int .i64 q1) := HD.out ⟨8, .data⟩ (by simp) rfl
      rw [e0] at q26
      clear q18 q19 q20 q22 q23 q24 q25 q27 q28 q29 q30 q31 q32 q33 q34 q35 q36 sl3 sl4 sl7 ho hi
      go_simp
      exact hK _ _ (Below.refl _ _) rfl
    · obtain rfl := Option.some.inj ho
      have e0 : v 21 = (.bool false) := HD.out ⟨3, .data⟩ (by simp) rfl
      rw [e0] at q21
      have e1 : v 27 = (.bool false) := HD.out ⟨9, .data⟩ (by simp) rfl
      rw [e1] at q27
      clear q18 q19 q20 q22 q23 q24 q25 q26 q28 q29 q30 q31 q32 q33 q34 q35 q36 sl3 sl4 sl7 ho hi
      go_simp
      exact hK _ _ (Below.refl _ _) rfl
    · obtain rfl := Option.some.inj ho
      have e0 : v 28 = (.bool false) := HD.out ⟨10, .data⟩ (by simp) rfl
      rw [e0] at q28
      clear q18 q19 q20 q21 q22 q23 q24 q25 q26 q27 q29 q30 q31 q32 q33 q34 q35 q36 sl3 sl4 sl7 ho hi
      go_simp
      exact hK _ _ (Below.refl _ _) rfl
    · obtain rfl := Option.some.inj ho
      have eg : v 29 = (.bool false) := HD.out ⟨11, .guard⟩ (by simp) rfl
      rw [eg] at q29
      obtain ⟨k0, k1, k2⟩ := HF.out.bp
      have hP := (rfl : Value.agg #[.int .i64 p1, .int .i64 p2] = .agg #[.int .i64 p1, .int .i64 p2])
      clear q18 q19 q20 q21 q22 q23 q24 q25 q26 q27 q28 q30 q31 q32 q33 q34 q35 q36 sl3 sl4 ho hi
      go_simp
      exact hK _ _ (Below.refl _ _) hP
    · obtain rfl := Option.some.inj ho
      have eg : v 29 = (.bool false) := HD.out ⟨11, .guard⟩ (by simp) rfl
      rw [eg] at q29
      have e0 : v 30 = (.agg #[.int .i64 p1, .int .i64 p2]) := HD.out ⟨12, .data⟩ (by simp) rfl
      rw [e0] at q30
      clear q18 q19 q20 q21 q22 q23 q24 q25 q26 q27 q28 q31 q32 q33 q34 q35 q36 sl3 sl4 sl7 ho hi
      go_simp
      (with_reducible refine (HTp.out _).mono ?_)
      rintro e w2 ⟨u, rfl, hu, hB⟩
      exact hK _ _ hB hu
    · obtain rfl := Option.some.inj ho
      have eg : v 29 = (.bool false) := HD.out ⟨11, .guard⟩ (by simp) rfl
      rw [eg] at q29
      obtain ⟨k0, k1, k2⟩ := HF.out.bb
      have hP := (rfl : Value.agg #[.int .i64 t2, .int .i64 l2] = .agg #[.int .i64 t2, .int .i64 l2])
      clear q18 q19 q20 q21 q22 q23 q24 q25 q26 q27 q28 q30 q31 q32 q33 q34 q35 q36 sl3 sl7 ho hi
      go_simp
      exact hK _ _ (Below.refl _ _) hP
    · obtain rfl := Option.some.inj ho
      have eg : v 29 = (.bool false) := HD.out ⟨11, .guard⟩ (by simp) rfl
      rw [eg] at q29
      have e0 : v 32 = (.agg #[.int .i64 t2, .int .i64 l2]) := HD.out ⟨14, .data⟩ (by simp) rfl
      rw [e0] at q32
      clear q18 q19 q20 q21 q22 q23 q24 q25 q26 q27 q28 q30 q31 q33 q34 q35 q36 sl3 sl4 sl7 ho hi
      go_simp
      (with_reducible refine (HTb.out _).mono ?_)
      rintro e w2 ⟨u, rfl, hu, hB⟩
      exact hK _ _ hB hu
    · obtain rfl := Option.some.inj ho
      have eg : v 29 = (.bool false) := HD.out ⟨11, .guard⟩ (by simp) rfl
      rw [eg] at q29
      have h0 : RFV wx (v 31) z := HD.out ⟨13, .data⟩ (by simp) rfl
      have h1 : RFV wx (v 33) y := HD.out ⟨15, .data⟩ (by simp) rfl
      clear q18 q19 q20 q21 q22 q23 q24 q25 q26 q27 q28 q30 q32 q34 q35 q36 sl3 sl4 sl7 ho hi
      go_simp
      (with_reducible refine (HQ2.out _ _ _ h0 h1).mono ?_)
      rintro e w2 ⟨u, rfl, hu, hB⟩
      exact hK _ _ hB hu
    · obtain rfl := Option.some.inj ho
      have eg : v 29 = (.bool false) := HD.out ⟨11, .guard⟩ (by simp) rfl
      rw [eg] at q29
      have e0 : v 34 = (.int .i64 q2) := HD.out ⟨16, .data⟩ (by simp) rfl
      rw [e0] at q34
      clear q18 q19 q20 q21 q22 q23 q24 q25 q26 q27 q28 q30 q31 q32 q33 q35 q36 sl3 sl4 sl7 ho hi
      go_simp
      exact hK _ _ (Below.refl _ _) rfl
    · obtain rfl := Option.some.inj ho
      have e0 : v 29 = (.bool false) := HD.out ⟨11, .data⟩ (by simp) rfl
      rw [e0] at q29
      have e1 : v 35 = (.bool false) := HD.out ⟨17, .data⟩ (by simp) rfl
      rw [e1] at q35
      clear q18 q19 q20 q21 q22 q23 q24 q25 q26 q27 q28 q30 q31 q32 q33 q34 q36 sl3 sl4 sl7 ho hi
      go_simp
      exact hK _ _ (Below.refl _ _) rfl
  · intro v wx hF hall
    have h18 : v 36 = .bool false := hall 18 (by decide)
    have HF := Lib.hid hF
    clear hF hall
    simp only [over, List.setIfInBounds_toArray, List.set_cons_zero, List.set_cons_succ]
    rw [h18]
    generalize v 18 = v18
    generalize v 19 = v19
    generalize v 20 = v20
    generalize v 21 = v21
    generalize v 22 = v22
    generalize v 23 = v23
    generalize v 24 = v24
    generalize v 25 = v25
    generalize v 26 = v26
    generalize v 27 = v27
    generalize v 28 = v28
    generalize v 29 = v29
    generalize v 30 = v30
    generalize v 31 = v31
    generalize v 32 = v32
    generalize v 33 = v33
    generalize v 34 = v34
    generalize v 35 = v35
    clear HVp HTp HQ1 HQ2 hq1 hq2
    go_upto_region 6 with fail
    refine wp_region_flow 19 [37, 38, 39, 40, 41, 42, 43, 44, 45, 46, 47, 48, 49, 50, 51, 52, 53, 54, 55] (fun i => 37 + i) (FL w gp (.int .i64 t1) (.int .i64 l1) (.int .i64 t2) (.int .i64 l2) (.int .i64 t3) (.int .i64 l3) (.int .i64 p1) (.int .i64 p2)) (Spl [.val (.agg #[.int .i64 t3, .int .i64 l3]), .val (.bool true), .val (.bool false), .val (.bool false), .val (.agg #[.int .i64 t1, .int .i64 l1]), .rat x, .val (.agg #[.int .i64 t3, .int .i64 l3]), .rat c, .val (.int .i64 q3), .val (.bool true), .val (.bool true), .val (.bool true), .val undef, .val undef, .val undef, .val undef, .val undef, .val undef, .val (.bool true)]) (by kernel_rfl) (by kernel_rfl) (by kernel_rfl) (by kernel_rfl) (fun i j _ _ h => Nat.add_left_cancel (show 37 + i = 37 + j from h)) (by decide) FL.keep Spl.keep ?_ ?_ ?_
    · exact HF.out.keep _ _ (Below.drew (Below.refl _ _))
    · intro i v wx o T' K ho hF hdep hin hout hK
      have hi : i < 19 := (Array.getElem?_eq_some_iff.1 ho).1
      have q37 := hin 37 (by decide)
      have q38 := hin 38 (by decide)
      have q39 := hin 39 (by decide)
      have q40 := hin 40 (by decide)
      have q41 := hin 41 (by decide)
      have q42 := hin 42 (by decide)
      have q43 := hin 43 (by decide)
      have q44 := hin 44 (by decide)
      have q45 := hin 45 (by decide)
      have q46 := hin 46 (by decide)
      have q47 := hin 47 (by decide)
      have q48 := hin 48 (by decide)
      have q49 := hin 49 (by decide)
      have q50 := hin 50 (by decide)
      have q51 := hin 51 (by decide)
      have q52 := hin 52 (by decide)
      have q53 := hin 53 (by decide)
      have q54 := hin 54 (by decide)
      have q55 := hin 55 (by decide)
      have sl3 : T'[3]? = some (.pointer (some ⟨w.heap.size, 0, none⟩)) := (hout 3 (by decide)).trans rfl
      have sl4 : T'[4]? = some (.pointer (some ⟨w.heap.size + 1, 0, none⟩)) := (hout 4 (by decide)).trans rfl
      have sl5 : T'[5]? = some (.pointer (some ⟨w.heap.size + 1 + 1, 0, none⟩)) := (hout 5 (by decide)).trans rfl
      clear hin hout
      have HF := Lib.hid hF
      have HD := Lib.hid hdep
      clear hF hdep
      rcases (by omega : i = 0 ∨ i = 1 ∨ i = 2 ∨ i = 3 ∨ i = 4 ∨ i = 5 ∨ i = 6 ∨ i = 7 ∨ i = 8 ∨ i = 9 ∨ i = 10 ∨ i = 11 ∨ i = 12 ∨ i = 13 ∨ i = 14 ∨ i = 15 ∨ i = 16 ∨ i = 17 ∨ i = 18) with rfl | rfl | rfl | rfl | rfl | rfl | rfl | rfl | rfl | rfl | rfl | rfl | rfl | rfl | rfl | rfl | rfl | rfl | rfl
      · obtain rfl := Option.some.inj ho
        obtain ⟨k0, k1, k2⟩ := HF.out.bc
        have hP := (rfl : Value.agg #[.int .i64 t3, .int .i64 l3] = .agg #[.int .i64 t3, .int .i64 l3])
        clear q37 q38 q39 q40 q41 q42 q43 q44 q45 q46 q47 q48 q49 q50 q51 q52 q53 q54 q55 sl3 sl4 ho hi
        go_simp
        exact hK _ _ (Below.refl _ _) hP
      · obtain rfl := Option.some.inj ho
        have e0 : v 37 = (.agg #[.int .i64 t3, .int .i64 l3]) := HD.out ⟨0, .data⟩ (by simp) rfl
        rw [e0] at q37
        clear q38 q39 q40 q41 q42 q43 q44 q45 q46 q47 q48 q49 q50 q51 q52 q53 q54 q55 sl3 sl4 sl5 ho hi
        go_simp
        (with_reducible refine (HVc.out _).mono ?_)
        rintro e w2 ⟨u, rfl, hu, hB⟩
        exact hK _ _ hB hu
      · obtain rfl := Option.some.inj ho
        have e0 : v 38 = (.bool true) := HD.out ⟨1, .data⟩ (by simp) rfl
        rw [e0] at q38
        clear q37 q39 q40 q41 q42 q43 q44 q45 q46 q47 q48 q49 q50 q51 q52 q53 q54 q55 sl3 sl4 sl5 ho hi
        go_simp
        exact hK _ _ (Below.refl _ _) rfl
      · obtain rfl := Option.some.inj ho
        have e0 : v 39 = (.bool false) := HD.out ⟨2, .data⟩ (by simp) rfl
        rw [e0] at q39
        clear q37 q38 q40 q41 q42 q43 q44 q45 q46 q47 q48 q49 q50 q51 q52 q53 q54 q55 sl3 sl4 sl5 ho hi
        go_simp
        exact hK _ _ (Below.refl _ _) rfl
      · obtain rfl := Option.some.inj ho
        have eg : v 40 = (.bool false) := HD.out ⟨3, .guard⟩ (by simp) rfl
        rw [eg] at q40
        obtain ⟨k0, k1, k2⟩ := HF.out.ba
        have hP := (rfl : Value.agg #[.int .i64 t1, .int .i64 l1] = .agg #[.int .i64 t1, .int .i64 l1])
        clear q37 q38 q39 q41 q42 q43 q44 q45 q46 q47 q48 q49 q50 q51 q52 q53 q54 q55 sl4 sl5 ho hi
        go_simp
        exact hK _ _ (Below.refl _ _) hP
      · obtain rfl := Option.some.inj ho
        have eg : v 40 = (.bool false) := HD.out ⟨3, .guard⟩ (by simp) rfl
        rw [eg] at q40
        have e0 : v 41 = (.agg #[.int .i64 t1, .int .i64 l1]) := HD.out ⟨4, .data⟩ (by simp) rfl
        rw [e0] at q41
        clear q37 q38 q39 q42 q43 q44 q45 q46 q47 q48 q49 q50 q51 q52 q53 q54 q55 sl3 sl4 sl5 ho hi
        go_simp
        (with_reducible refine (HTa.out _).mono ?_)
        rintro e w2 ⟨u, rfl, hu, hB⟩
        exact hK _ _ hB hu
      · obtain rfl := Option.some.inj ho
        have eg : v 40 = (.bool false) := HD.out ⟨3, .guard⟩ (by simp) rfl
        rw [eg] at q40
        obtain ⟨k0, k1, k2⟩ := HF.out.bc
        have hP := (rfl : Value.agg #[.int .i64 t3, .int .i64 l3] = .agg #[.int .i64 t3, .int .i64 l3])
        clear q37 q38 q39 q41 q42 q43 q44 q45 q46 q47 q48 q49 q50 q51 q52 q53 q54 q55 sl3 sl4 ho hi
        go_simp
        exact hK _ _ (Below.refl _ _) hP
      · obtain rfl := Option.some.inj ho
        have eg : v 40 = (.bool false) := HD.out ⟨3, .guard⟩ (by simp) rfl
        rw [eg] at q40
        have e0 : v 43 = (.agg #[.int .i64 t3, .int .i64 l3]) := HD.out ⟨6, .data⟩ (by simp) rfl
        rw [e0] at q43
        clear q37 q38 q39 q41 q42 q44 q45 q46 q47 q48 q49 q50 q51 q52 q53 q54 q55 sl3 sl4 sl5 ho hi
        go_simp
        (with_reducible refine (HTc.out _).mono ?_)
        rintro e w2 ⟨u, rfl, hu, hB⟩
        exact hK _ _ hB hu
      · obtain rfl := Option.some.inj ho
        have eg : v 40 = (.bool false) := HD.out ⟨3, .guard⟩ (by simp) rfl
        rw [eg] at q40
        have h0 : RFV wx (v 42) x := HD.out ⟨5, .data⟩ (by simp) rfl
        have h1 : RFV wx (v 44) c := HD.out ⟨7, .data⟩ (by simp) rfl
        clear q37 q38 q39 q41 q43 q45 q46 q47 q48 q49 q50 q51 q52 q53 q54 q55 sl3 sl4 sl5 ho hi
        go_simp
        (with_reducible refine (HQ3.out _ _ _ h0 h1).mono ?_)
        rintro e w2 ⟨u, rfl, hu, hB⟩
        exact hK _ _ hB hu
      · obtain rfl := Option.some.inj ho
        have eg : v 40 = (.bool false) := HD.out ⟨3, .guard⟩ (by simp) rfl
        rw [eg] at q40
        have e0 : v 45 = (.int .i64 q3) := HD.out ⟨8, .data⟩ (by simp) rfl
        rw [e0] at q45
        clear q37 q38 q39 q41 q42 q43 q44 q46 q47 q48 q49 q50 q51 q52 q53 q54 q55 sl3 sl4 sl5 ho hi
        go_simp
        exact hK _ _ (Below.refl _ _) rfl
      · obtain rfl := Option.some.inj ho
        have e0 : v 40 = (.bool false) := HD.out ⟨3, .data⟩ (by simp) rfl
        rw [e0] at q40
        have e1 : v 46 = (.bool true) := HD.out ⟨9, .data⟩ (by simp) rfl
        rw [e1] at q46
        clear q37 q38 q39 q41 q42 q43 q44 q45 q47 q48 q49 q50 q51 q52 q53 q54 q55 sl3 sl4 sl5 ho hi
        go_simp
        exact hK _ _ (Below.refl _ _) rfl
      · obtain rfl := Option.some.inj ho
        have e0 : v 47 = (.bool true) := HD.out ⟨10, .data⟩ (by simp) rfl
        rw [e0] at q47
        clear q37 q38 q39 q40 q41 q42 q43 q44 q45 q46 q48 q49 q50 q51 q52 q53 q54 q55 sl3 sl4 sl5 ho hi
        go_simp
        exact hK _ _ (Below.refl _ _) rfl
      · obtain rfl := Option.some.inj ho
        have eg : v 48 = (.bool true) := HD.out ⟨11, .guard⟩ (by simp) rfl
        rw [eg] at q48
        clear q37 q38 q39 q40 q41 q42 q43 q44 q45 q46 q47 q49 q50 q51 q52 q53 q54 q55 sl3 sl4 sl5 ho hi
        go_simp
        exact hK _ _ (Below.refl _ _) rfl
      · obtain rfl := Option.some.inj ho
        have eg : v 48 = (.bool true) := HD.out ⟨11, .guard⟩ (by simp) rfl
        rw [eg] at q48
        clear q37 q38 q39 q40 q41 q42 q43 q44 q45 q46 q47 q49 q50 q51 q52 q53 q54 q55 sl3 sl4 sl5 ho hi
        go_simp
        exact hK _ _ (Below.refl _ _) rfl
      · obtain rfl := Option.some.inj ho
        have eg : v 48 = (.bool true) := HD.out ⟨11, .guard⟩ (by simp) rfl
        rw [eg] at q48
        clear q37 q38 q39 q40 q41 q42 q43 q44 q45 q46 q47 q49 q50 q51 q52 q53 q54 q55 sl3 sl4 sl5 ho hi
        go_simp
        exact hK _ _ (Below.refl _ _) rfl
      · obtain rfl := Option.some.inj ho
        have eg : v 48 = (.bool true) := HD.out ⟨11, .guard⟩ (by simp) rfl
        rw [eg] at q48
        clear q37 q38 q39 q40 q41 q42 q43 q44 q45 q46 q47 q49 q50 q51 q52 q53 q54 q55 sl3 sl4 sl5 ho hi
        go_simp
        exact hK _ _ (Below.refl _ _) rfl
      · obtain rfl := Option.some.inj ho
        have eg : v 48 = (.bool true) := HD.out ⟨11, .guard⟩ (by simp) rfl
        rw [eg] at q48
        clear q37 q38 q39 q40 q41 q42 q43 q44 q45 q46 q47 q49 q50 q51 q52 q53 q54 q55 sl3 sl4 sl5 ho hi
        go_simp
        exact hK _ _ (Below.refl _ _) rfl
      · obtain rfl := Option.some.inj ho
        have eg : v 48 = (.bool true) := HD.out ⟨11, .guard⟩ (by simp) rfl
        rw [eg] at q48
        clear q37 q38 q39 q40 q41 q42 q43 q44 q45 q46 q47 q49 q50 q51 q52 q53 q54 q55 sl3 sl4 sl5 ho hi
        go_simp
        exact hK _ _ (Below.refl _ _) rfl
      · obtain rfl := Option.some.inj ho
        have e0 : v 48 = (.bool true) := HD.out ⟨11, .data⟩ (by simp) rfl
        rw [e0] at q48
        clear q37 q38 q39 q40 q41 q42 q43 q44 q45 q46 q47 q49 q50 q51 q52 q53 q54 q55 sl3 sl4 sl5 ho hi
        go_simp
        exact hK _ _ (Below.refl _ _) rfl
    · intro v wx hF hall
      have h18 : v 55 = .bool true := hall 18 (by decide)
      have HF := Lib.hid hF
      clear hF hall
      simp only [over, List.setIfInBounds_toArray, List.set_cons_zero, List.set_cons_succ]
      rw [h18]
      generalize v 37 = v37
      generalize v 38 = v38
      generalize v 39 = v39
      generalize v 40 = v40
      generalize v 41 = v41
      generalize v 42 = v42
      generalize v 43 = v43
      generalize v 44 = v44
      generalize v 45 = v45
      generalize v 46 = v46
      generalize v 47 = v47
      generalize v 48 = v48
      generalize v 49 = v49
      generalize v 50 = v50
      generalize v 51 = v51
      generalize v 52 = v52
      generalize v 53 = v53
      generalize v 54 = v54
      go_wp2_with fail
      (with_reducible refine (HA.out _).mono ?_)
      rintro e wa ⟨rfl, hB⟩
      have hb := stepB HF.out.below hB
      clear hB HF
      go_wp2_with fail
      go_ret
      exact ⟨rfl, hb⟩

set_option maxRecDepth 100000 in
set_option maxHeartbeats 20000000 in
theorem least_high (t1 l1 t2 l2 t3 l3 p1 p2 : Int) (q1 q2 q3 q4 : Int) (x y z c : Rat) (w : World) (hq1 : decide (0 < q1) = false) (hq2 : decide (0 < q2) = false) (hq3 : decide (0 < q3) = false) (hq4 : decide (0 < q4) = true)
    (H1 : Hid (∀ wx, Calls Try.prog 15 #[.agg #[.int .i64 t1, .int .i64 l1], .agg #[.int .i64 t2, .int .i64 l2]] wx (Rt p1 p2 0 wx))) (HA : Hid (∀ wx, Calls Try.prog 13 #[] wx fun e w' => e = .returned (.bool true) ∧ Below wx.heap.size wx w'))
    (HVp : Hid (∀ wx, Calls Try.prog 17 #[.agg #[.int .i64 p1, .int .i64 p2]] wx (RetV (.val (.bool true)) wx))) (HTa : Hid (∀ wx, Calls Try.prog 18 #[.agg #[.int .i64 t1, .int .i64 l1]] wx (RetV (.rat x) wx))) (HTb : Hid (∀ wx, Calls Try.prog 18 #[.agg #[.int .i64 t2, .int .i64 l2]] wx (RetV (.rat y) wx))) (HTp : Hid (∀ wx, Calls Try.prog 18 #[.agg #[.int .i64 p1, .int .i64 p2]] wx (RetV (.rat z) wx)))
    (HQ1 : Hid (∀ wx u u', RFV wx u x → RFV wx u' z → Calls Try.prog 19 #[u, u'] wx (RetV (.val (.int .i64 q1)) wx))) (HQ2 : Hid (∀ wx u u', RFV wx u z → RFV wx u' y → Calls Try.prog 19 #[u, u'] wx (RetV (.val (.int .i64 q2)) wx)))
    (HVc : Hid (∀ wx, Calls Try.prog 17 #[.agg #[.int .i64 t3, .int .i64 l3]] wx (RetV (.val (.bool true)) wx))) (HTc : Hid (∀ wx, Calls Try.prog 18 #[.agg #[.int .i64 t3, .int .i64 l3]] wx (RetV (.rat c) wx))) (HQ3 : Hid (∀ wx u u', RFV wx u x → RFV wx u' c → Calls Try.prog 19 #[u, u'] wx (RetV (.val (.int .i64 q3)) wx))) (HQ4 : Hid (∀ wx u u', RFV wx u c → RFV wx u' y → Calls Try.prog 19 #[u, u'] wx (RetV (.val (.int .i64 q4)) wx))) :
    Calls Try.prog 6 #[.agg #[.int .i64 t1, .int .i64 l1], .agg #[.int .i64 t2, .int .i64 l2], .agg #[.int .i64 t3, .int .i64 l3]] w fun e w' => e = .returned (.bool true) ∧ Below w.heap.size w w' := by
  go_enter Try.func6, Try.ntmps6
  go_upto_region 1 with fail
  generalize hX : ((w.alloc _).alloc _).alloc _ = X
  have HX : Hid (Below w.heap.size w X ∧ B2n w.heap.size (.int .i64 t1) (.int .i64 l1) X ∧ B2n (w.heap.size + 1) (.int .i64 t2) (.int .i64 l2) X ∧ B2n (w.heap.size + 1 + 1) (.int .i64 t3) (.int .i64 l3) X) := by
    subst hX
    exact ⟨(((Below.refl _ _).alloc (Nat.le_refl _) _).alloc (by simp) _).alloc (by simp; omega) _, by simp [B2n, go_sem], by simp [B2n, go_sem], by simp [B2n, go_sem]⟩
  clear hX
  obtain ⟨k0, k1, -⟩ := HX.out.2.1
  obtain ⟨j0, j1, -⟩ := HX.out.2.2.1
  go_wp2_with fail
  (with_reducible refine (H1.out _).mono ?_)
  rintro e w1 ⟨rfl, hB1⟩
  have H1B := Lib.hid hB1
  clear k0 k1 j0 j1 hB1 H1
  go_upto_region 4 with fail
  generalize hY : w1.alloc _ = Y
  have HY : Hid (FL w w1.heap.size (.int .i64 t1) (.int .i64 l1) (.int .i64 t2) (.int .i64 l2) (.int .i64 t3) (.int .i64 l3) (.int .i64 p1) (.int .i64 p2) Y) := by
    have hB : Below w1.heap.size w1 Y := by subst hY; exact below_alloc _ _
    have hXY : Below X.heap.size X Y := stepB H1B.out hB
    exact ⟨HX.out.1.trans (hXY.mono HX.out.1.size), HX.out.2.1.keep hXY, HX.out.2.2.1.keep hXY, HX.out.2.2.2.keep hXY, by subst hY; simp [B2n, go_sem]⟩
  clear hY HX H1B
  generalize w1.heap.size = gp at HY ⊢
  clear w1
  refine wp_region_flow 19 [18, 19, 20, 21, 22, 23, 24, 25, 26, 27, 28, 29, 30, 31, 32, 33, 34, 35, 36] (fun i => 18 + i) (FL w gp (.int .i64 t1) (.int .i64 l1) (.int .i64 t2) (.int .i64 l2) (.int .i64 t3) (.int .i64 l3) (.int .i64 p1) (.int .i64 p2)) (Spl [.val (.agg #[.int .i64 p1, .int .i64 p2]), .val (.bool true), .val (.bool false), .val (.bool false), .val (.agg #[.int .i64 t1, .int .i64 l1]), .rat x, .val (.agg #[.int .i64 p1, .int .i64 p2]), .rat z, .val (.int .i64 q1), .val (.bool false), .val (.bool false), .val (.bool false), .val (.agg #[.int .i64 p1, .int .i64 p2]), .rat z, .val (.agg #[.int .i64 t2, .int .i64 l2]), .rat y, .val (.int .i64 q2), .val (.bool false), .val (.bool false)]) (by kernel_rfl) (by kernel_rfl) (by kernel_rfl) (by kernel_rfl) (fun i j _ _ h => Nat.add_left_cancel (show 18 + i = 18 + j from h)) (by decide) FL.keep Spl.keep ?_ ?_ ?_
  · exact HY.out.keep _ _ (Below.drew (Below.refl _ _))
  · intro i v wx o T' K ho hF hdep hin hout hK
    have hi : i < 19 := (Array.getElem?_eq_some_iff.1 ho).1
    have q18 := hin 18 (by decide)
    have q19 := hin 19 (by decide)
    have q20 := hin 20 (by decide)
    have q21 := hin 21 (by decide)
    have q22 := hin 22 (by decide)
    have q23 := hin 23 (by decide)
    have q24 := hin 24 (by decide)
    have q25 := hin 25 (by decide)
    have q26 := hin 26 (by decide)
    have q27 := hin 27 (by decide)
    have q28 := hin 28 (by decide)
    have q29 := hin 29 (by decide)
    have q30 := hin 30 (by decide)
    have q31 := hin 31 (by decide)
    have q32 := hin 32 (by decide)
    have q33 := hin 33 (by decide)
    have q34 := hin 34 (by decide)
    have q35 := hin 35 (by decide)
    have q36 := hin 36 (by decide)
    have sl3 : T'[3]? = some (.pointer (some ⟨w.heap.size, 0, none⟩)) := (hout 3 (by decide)).trans rfl
    have sl4 : T'[4]? = some (.pointer (some ⟨w.heap.size + 1, 0, none⟩)) := (hout 4 (by decide)).trans rfl
    have sl7 : T'[7]? = some (.pointer (some ⟨gp, 0, none⟩)) := (hout 7 (by decide)).trans rfl
    clear hin hout
    have HF := Lib.hid hF
    have HD := Lib.hid hdep
    clear hF hdep
    rcases (by omega : i = 0 ∨ i = 1 ∨ i = 2 ∨ i = 3 ∨ i = 4 ∨ i = 5 ∨ i = 6 ∨ i = 7 ∨ i = 8 ∨ i = 9 ∨ i = 10 ∨ i = 11 ∨ i = 12 ∨ i = 13 ∨ i = 14 ∨ i = 15 ∨ i = 16 ∨ i = 17 ∨ i = 18) with rfl | rfl | rfl | rfl | rfl | rfl | rfl | rfl | rfl | rfl | rfl | rfl | rfl | rfl | rfl | rfl | rfl | rfl | rfl
    · obtain rfl := Option.some.inj ho
      obtain ⟨k0, k1, k2⟩ := HF.out.bp
      have hP := (rfl : Value.agg #[.int .i64 p1, .int .i64 p2] = .agg #[.int .i64 p1, .int .i64 p2])
      clear q18 q19 q20 q21 q22 q23 q24 q25 q26 q27 q28 q29 q30 q31 q32 q33 q34 q35 q36 sl3 sl4 ho hi
      go_simp
      exact hK _ _ (Below.refl _ _) hP
    · obtain rfl := Option.some.inj ho
      have e0 : v 18 = (.agg #[.int .i64 p1, .int .i64 p2]) := HD.out ⟨0, .data⟩ (by simp) rfl
      rw [e0] at q18
      clear q19 q20 q21 q22 q23 q24 q25 q26 q27 q28 q29 q30 q31 q32 q33 q34 q35 q36 sl3 sl4 sl7 ho hi
      go_simp
      (with_reducible refine (HVp.out _).mono ?_)
      rintro e w2 ⟨u, rfl, hu, hB⟩
      exact hK _ _ hB hu
    · obtain rfl := Option.some.inj ho
      have e0 : v 19 = (.bool true) := HD.out ⟨1, .data⟩ (by simp) rfl
      rw [e0] at q19
      clear q18 q20 q21 q22 q23 q24 q25 q26 q27 q28 q29 q30 q31 q32 q33 q34 q35 q36 sl3 sl4 sl7 ho hi
      go_simp
      exact hK _ _ (Below.refl _ _) rfl
    · obtain rfl := Option.some.inj ho
      have e0 : v 20 = (.bool false) := HD.out ⟨2, .data⟩ (by simp) rfl
      rw [e0] at q20
      clear q18 q19 q21 q22 q23 q24 q25 q26 q27 q28 q29 q30 q31 q32 q33 q34 q35 q36 sl3 sl4 sl7 ho hi
      go_simp
      exact hK _ _ (Below.refl _ _) rfl
    · obtain rfl := Option.some.inj ho
      have eg : v 21 = (.bool false) := HD.out ⟨3, .guard⟩ (by simp) rfl
      rw [eg] at q21
      obtain ⟨k0, k1, k2⟩ := HF.out.ba
      have hP := (rfl : Value.agg #[.int .i64 t1, .int .i64 l1] = .agg #[.int .i64 t1, .int .i64 l1])
      clear q18 q19 q20 q22 q23 q24 q25 q26 q27 q28 q29 q30 q31 q32 q33 q34 q35 q36 sl4 sl7 ho hi
      go_simp
      exact hK _ _ (Below.refl _ _) hP
    · obtain rfl := Option.some.inj ho
      have eg : v 21 = (.bool false) := HD.out ⟨3, .guard⟩ (by simp) rfl
      rw [eg] at q21
      have e0 : v 22 = (.agg #[.int .i64 t1, .int .i64 l1]) := HD.out ⟨4, .data⟩ (by simp) rfl
      rw [e0] at q22
      clear q18 q19 q20 q23 q24 q25 q26 q27 q28 q29 q30 q31 q32 q33 q34 q35 q36 sl3 sl4 sl7 ho hi
      go_simp
      (with_reducible refine (HTa.out _).mono ?_)
      rintro e w2 ⟨u, rfl, hu, hB⟩
      exact hK _ _ hB hu
    · obtain rfl := Option.some.inj ho
      have eg : v 21 = (.bool false) := HD.out ⟨3, .guard⟩ (by simp) rfl
      rw [eg] at q21
      obtain ⟨k0, k1, k2⟩ := HF.out.bp
      have hP := (rfl : Value.agg #[.int .i64 p1, .int .i64 p2] = .agg #[.int .i64 p1, .int .i64 p2])
      clear q18 q19 q20 q22 q23 q24 q25 q26 q27 q28 q29 q30 q31 q32 q33 q34 q35 q36 sl3 sl4 ho hi
      go_simp
      exact hK _ _ (Below.refl _ _) hP
    · obtain rfl := Option.some.inj ho
      have eg : v 21 = (.bool false) := HD.out ⟨3, .guard⟩ (by simp) rfl
      rw [eg] at q21
      have e0 : v 24 = (.agg #[.int .i64 p1, .int .i64 p2]) := HD.out ⟨6, .data⟩ (by simp) rfl
      rw [e0] at q24
      clear q18 q19 q20 q22 q23 q25 q26 q27 q28 q29 q30 q31 q32 q33 q34 q35 q36 sl3 sl4 sl7 ho hi
      go_simp
      (with_reducible refine (HTp.out _).mono ?_)
      rintro e w2 ⟨u, rfl, hu, hB⟩
      exact hK _ _ hB hu
    · obtain rfl := Option.some.inj ho
      have eg : v 21 = (.bool false) := HD.out ⟨3, .guard⟩ (by simp) rfl
      rw [eg] at q21
      have h0 : RFV wx (v 23) x := HD.out ⟨5, .data⟩ (by simp) rfl
      have h1 : RFV wx (v 25) z := HD.out ⟨7, .data⟩ (by simp) rfl
      clear q18 q19 q20 q22 q24 q26 q27 q28 q29 q30 q31 q32 q33 q34 q35 q36 sl3 sl4 sl7 ho hi
      go_simp
      (with_reducible refine (HQ1.out _ _ _ h0 h1).mono ?_)
      rintro e w2 ⟨u, rfl, hu, hB⟩
      exact hK _ _ hB hu
    · obtain rfl := Option.some.inj ho
      have eg : v 21 = (.bool false) := HD.out ⟨3, .guard⟩ (by simp) rfl
      rw [eg] at q21
      have e0 : v 26 = (.int .i64 q1) := HD.out ⟨8, .data⟩ (by simp) rfl
      rw [e0] at q26
      clear q18 q19 q20 q22 q23 q24 q25 q27 q28 q29 q30 q31 q32 q33 q34 q35 q36 sl3 sl4 sl7 ho hi
      go_simp
      exact hK _ _ (Below.refl _ _) rfl
    · obtain rfl := Option.some.inj ho
      have e0 : v 21 = (.bool false) := HD.out ⟨3, .data⟩ (by simp) rfl
      rw [e0] at q21
      have e1 : v 27 = (.bool false) := HD.out ⟨9, .data⟩ (by simp) rfl
      rw [e1] at q27
      clear q18 q19 q20 q22 q23 q24 q25 q26 q28 q29 q30 q31 q32 q33 q34 q35 q36 sl3 sl4 sl7 ho hi
      go_simp
      exact hK _ _ (Below.refl _ _) rfl
    · obtain rfl := Option.some.inj ho
      have e0 : v 28 = (.bool false) := HD.out ⟨10, .data⟩ (by simp) rfl
      rw [e0] at q28
      clear q18 q19 q20 q21 q22 q23 q24 q25 q26 q27 q29 q30 q31 q32 q33 q34 q35 q36 sl3 sl4 sl7 ho hi
      go_simp
      exact hK _ _ (Below.refl _ _) rfl
    · obtain rfl := Option.some.inj ho
      have eg : v 29 = (.bool false) := HD.out ⟨11, .guard⟩ (by simp) rfl
      rw [eg] at q29
      obtain ⟨k0, k1, k2⟩ := HF.out.bp
      have hP := (rfl : Value.agg #[.int .i64 p1, .int .i64 p2] = .agg #[.int .i64 p1, .int .i64 p2])
      clear q18 q19 q20 q21 q22 q23 q24 q25 q26 q27 q28 q30 q31 q32 q33 q34 q35 q36 sl3 sl4 ho hi
      go_simp
      exact hK _ _ (Below.refl _ _) hP
    · obtain rfl := Option.some.inj ho
      have eg : v 29 = (.bool false) := HD.out ⟨11, .guard⟩ (by simp) rfl
      rw [eg] at q29
      have e0 : v 30 = (.agg #[.int .i64 p1, .int .i64 p2]) := HD.out ⟨12, .data⟩ (by simp) rfl
      rw [e0] at q30
      clear q18 q19 q20 q21 q22 q23 q24 q25 q26 q27 q28 q31 q32 q33 q34 q35 q36 sl3 sl4 sl7 ho hi
      go_simp
      (with_reducible refine (HTp.out _).mono ?_)
      rintro e w2 ⟨u, rfl, hu, hB⟩
      exact hK _ _ hB hu
    · obtain rfl := Option.some.inj ho
      have eg : v 29 = (.bool false) := HD.out ⟨11, .guard⟩ (by simp) rfl
      rw [eg] at q29
      obtain ⟨k0, k1, k2⟩ := HF.out.bb
      have hP := (rfl : Value.agg #[.int .i64 t2, .int .i64 l2] = .agg #[.int .i64 t2, .int .i64 l2])
      clear q18 q19 q20 q21 q22 q23 q24 q25 q26 q27 q28 q30 q31 q32 q33 q34 q35 q36 sl3 sl7 ho hi
      go_simp
      exact hK _ _ (Below.refl _ _) hP
    · obtain rfl := Option.some.inj ho
      have eg : v 29 = (.bool false) := HD.out ⟨11, .guard⟩ (by simp) rfl
      rw [eg] at q29
      have e0 : v 32 = (.agg #[.int .i64 t2, .int .i64 l2]) := HD.out ⟨14, .data⟩ (by simp) rfl
      rw [e0] at q32
      clear q18 q19 q20 q21 q22 q23 q24 q25 q26 q27 q28 q30 q31 q33 q34 q35 q36 sl3 sl4 sl7 ho hi
      go_simp
      (with_reducible refine (HTb.out _).mono ?_)
      rintro e w2 ⟨u, rfl, hu, hB⟩
      exact hK _ _ hB hu
    · obtain rfl := Option.some.inj ho
      have eg : v 29 = (.bool false) := HD.out ⟨11, .guard⟩ (by simp) rfl
      rw [eg] at q29
      have h0 : RFV wx (v 31) z := HD.out ⟨13, .data⟩ (by simp) rfl
      have h1 : RFV wx (v 33) y := HD.out ⟨15, .data⟩ (by simp) rfl
      clear q18 q19 q20 q21 q22 q23 q24 q25 q26 q27 q28 q30 q32 q34 q35 q36 sl3 sl4 sl7 ho hi
      go_simp
      (with_reducible refine (HQ2.out _ _ _ h0 h1).mono ?_)
      rintro e w2 ⟨u, rfl, hu, hB⟩
      exact hK _ _ hB hu
    · obtain rfl := Option.some.inj ho
      have eg : v 29 = (.bool false) := HD.out ⟨11, .guard⟩ (by simp) rfl
      rw [eg] at q29
      have e0 : v 34 = (.int .i64 q2) := HD.out ⟨16, .data⟩ (by simp) rfl
      rw [e0] at q34
      clear q18 q19 q20 q21 q22 q23 q24 q25 q26 q27 q28 q30 q31 q32 q33 q35 q36 sl3 sl4 sl7 ho hi
      go_simp
      exact hK _ _ (Below.refl _ _) rfl
    · obtain rfl := Option.some.inj ho
      have e0 : v 29 = (.bool false) := HD.out ⟨11, .data⟩ (by simp) rfl
      rw [e0] at q29
      have e1 : v 35 = (.bool false) := HD.out ⟨17, .data⟩ (by simp) rfl
      rw [e1] at q35
      clear q18 q19 q20 q21 q22 q23 q24 q25 q26 q27 q28 q30 q31 q32 q33 q34 q36 sl3 sl4 sl7 ho hi
      go_simp
      exact hK _ _ (Below.refl _ _) rfl
  · intro v wx hF hall
    have h18 : v 36 = .bool false := hall 18 (by decide)
    have HF := Lib.hid hF
    clear hF hall
    simp only [over, List.setIfInBounds_toArray, List.set_cons_zero, List.set_cons_succ]
    rw [h18]
    generalize v 18 = v18
    generalize v 19 = v19
    generalize v 20 = v20
    generalize v 21 = v21
    generalize v 22 = v22
    generalize v 23 = v23
    generalize v 24 = v24
    generalize v 25 = v25
    generalize v 26 = v26
    generalize v 27 = v27
    generalize v 28 = v28
    generalize v 29 = v29
    generalize v 30 = v30
    generalize v 31 = v31
    generalize v 32 = v32
    generalize v 33 = v33
    generalize v 34 = v34
    generalize v 35 = v35
    clear HVp HTp HQ1 HQ2 hq1 hq2
    go_upto_region 6 with fail
    refine wp_region_flow 19 [37, 38, 39, 40, 41, 42, 43, 44, 45, 46, 47, 48, 49, 50, 51, 52, 53, 54, 55] (fun i => 37 + i) (FL w gp (.int .i64 t1) (.int .i64 l1) (.int .i64 t2) (.int .i64 l2) (.int .i64 t3) (.int .i64 l3) (.int .i64 p1) (.int .i64 p2)) (Spl [.val (.agg #[.int .i64 t3, .int .i64 l3]), .val (.bool true), .val (.bool false), .val (.bool false), .val (.agg #[.int .i64 t1, .int .i64 l1]), .rat x, .val (.agg #[.int .i64 t3, .int .i64 l3]), .rat c, .val (.int .i64 q3), .val (.bool false), .val (.bool false), .val (.bool false), .val (.agg #[.int .i64 t3, .int .i64 l3]), .rat c, .val (.agg #[.int .i64 t2, .int .i64 l2]), .rat y, .val (.int .i64 q4), .val (.bool true), .val (.bool true)]) (by kernel_rfl) (by kernel_rfl) (by kernel_rfl) (by kernel_rfl) (fun i j _ _ h => Nat.add_left_cancel (show 37 + i = 37 + j from h)) (by decide) FL.keep Spl.keep ?_ ?_ ?_
    · exact HF.out.keep _ _ (Below.drew (Below.refl _ _))
    · intro i v wx o T' K ho hF hdep hin hout hK
      have hi : i < 19 := (Array.getElem?_eq_some_iff.1 ho).1
      have q37 := hin 37 (by decide)
      have q38 := hin 38 (by decide)
      have q39 := hin 39 (by decide)
      have q40 := hin 40 (by decide)
      have q41 := hin 41 (by decide)
      have q42 := hin 42 (by decide)
      have q43 := hin 43 (by decide)
      have q44 := hin 44 (by decide)
      have q45 := hin 45 (by decide)
      have q46 := hin 46 (by decide)
      have q47 := hin 47 (by decide)
      have q48 := hin 48 (by decide)
      have q49 := hin 49 (by decide)
      have q50 := hin 50 (by decide)
      have q51 := hin 51 (by decide)
      have q52 := hin 52 (by decide)
      have q53 := hin 53 (by decide)
      have q54 := hin 54 (by decide)
      have q55 := hin 55 (by decide)
      have sl3 : T'[3]? = some (.pointer (some ⟨w.heap.size, 0, none⟩)) := (hout 3 (by decide)).trans rfl
      have sl4 : T'[4]? = some (.pointer (some ⟨w.heap.size + 1, 0, none⟩)) := (hout 4 (by decide)).trans rfl
      have sl5 : T'[5]? = some (.pointer (some ⟨w.heap.size + 1 + 1, 0, none⟩)) := (hout 5 (by decide)).trans rfl
      clear hin hout
      have HF := Lib.hid hF
      have HD := Lib.hid hdep
      clear hF hdep
      rcases (by omega : i = 0 ∨ i = 1 ∨ i = 2 ∨ i = 3 ∨ i = 4 ∨ i = 5 ∨ i = 6 ∨ i = 7 ∨ i = 8 ∨ i = 9 ∨ i = 10 ∨ i = 11 ∨ i = 12 ∨ i = 13 ∨ i = 14 ∨ i = 15 ∨ i = 16 ∨ i = 17 ∨ i = 18) with rfl | rfl | rfl | rfl | rfl | rfl | rfl | rfl | rfl | rfl | rfl | rfl | rfl | rfl | rfl | rfl | rfl | rfl | rfl
      · obtain rfl := Option.some.inj ho
        obtain ⟨k0, k1, k2⟩ := HF.out.bc
        have hP := (rfl : Value.agg #[.int .i64 t3, .int .i64 l3] = .agg #[.int .i64 t3, .int .i64 l3])
        clear q37 q38 q39 q40 q41 q42 q43 q44 q45 q46 q47 q48 q49 q50 q51 q52 q53 q54 q55 sl3 sl4 ho hi
        go_simp
        exact hK _ _ (Below.refl _ _) hP
      · obtain rfl := Option.some.inj ho
        have e0 : v 37 = (.agg #[.int .i64 t3, .int .i64 l3]) := HD.out ⟨0, .data⟩ (by simp) rfl
        rw [e0] at q37
        clear q38 q39 q40 q41 q42 q43 q44 q45 q46 q47 q48 q49 q50 q51 q52 q53 q54 q55 sl3 sl4 sl5 ho hi
        go_simp
        (with_reducible refine (HVc.out _).mono ?_)
        rintro e w2 ⟨u, rfl, hu, hB⟩
        exact hK _ _ hB hu
      · obtain rfl := Option.some.inj ho
        have e0 : v 38 = (.bool true) := HD.out ⟨1, .data⟩ (by simp) rfl
        rw [e0] at q38
        clear q37 q39 q40 q41 q42 q43 q44 q45 q46 q47 q48 q49 q50 q51 q52 q53 q54 q55 sl3 sl4 sl5 ho hi
        go_simp
        exact hK _ _ (Below.refl _ _) rfl
      · obtain rfl := Option.some.inj ho
        have e0 : v 39 = (.bool false) := HD.out ⟨2, .data⟩ (by simp) rfl
        rw [e0] at q39
        clear q37 q38 q40 q41 q42 q43 q44 q45 q46 q47 q48 q49 q50 q51 q52 q53 q54 q55 sl3 sl4 sl5 ho hi
        go_simp
        exact hK _ _ (Below.refl _ _) rfl
      · obtain rfl := Option.some.inj ho
        have eg : v 40 = (.bool false) := HD.out ⟨3, .guard⟩ (by simp) rfl
        rw [eg] at q40
        obtain ⟨k0, k1, k2⟩ := HF.out.ba
        have hP := (rfl : Value.agg #[.int .i64 t1, .int .i64 l1] = .agg #[.int .i64 t1, .int .i64 l1])
        clear q37 q38 q39 q41 q42 q43 q44 q45 q46 q47 q48 q49 q50 q51 q52 q53 q54 q55 sl4 sl5 ho hi
        go_simp
        exact hK _ _ (Below.refl _ _) hP
      · obtain rfl := Option.some.inj ho
        have eg : v 40 = (.bool false) := HD.out ⟨3, .guard⟩ (by simp) rfl
        rw [eg] at q40
        have e0 : v 41 = (.agg #[.int .i64 t1, .int .i64 l1]) := HD.out ⟨4, .data⟩ (by simp) rfl
        rw [e0] at q41
        clear q37 q38 q39 q42 q43 q44 q45 q46 q47 q48 q49 q50 q51 q52 q53 q54 q55 sl3 sl4 sl5 ho hi
        go_simp
        (with_reducible refine (HTa.out _).mono ?_)
        rintro e w2 ⟨u, rfl, hu, hB⟩
        exact hK _ _ hB hu
      · obtain rfl := Option.some.inj ho
        have eg : v 40 = (.bool false) := HD.out ⟨3, .guard⟩ (by simp) rfl
        rw [eg] at q40
        obtain ⟨k0, k1, k2⟩ := HF.out.bc
        have hP := (rfl : Value.agg #[.int .i64 t3, .int .i64 l3] = .agg #[.int .i64 t3, .int .i64 l3])
        clear q37 q38 q39 q41 q42 q43 q44 q45 q46 q47 q48 q49 q50 q51 q52 q53 q54 q55 sl3 sl4 ho hi
        go_simp
        exact hK _ _ (Below.refl _ _) hP
      · obtain rfl := Option.some.inj ho
        have eg : v 40 = (.bool false) := HD.out ⟨3, .guard⟩ (by simp) rfl
        rw [eg] at q40
        have e0 : v 43 = (.agg #[.int .i64 t3, .int .i64 l3]) := HD.out ⟨6, .data⟩ (by simp) rfl
        rw [e0] at q43
        clear q37 q38 q39 q41 q42 q44 q45 q46 q47 q48 q49 q50 q51 q52 q53 q54 q55 sl3 sl4 sl5 ho hi
        go_simp
        (with_reducible refine (HTc.out _).mono ?_)
        rintro e w2 ⟨u, rfl, hu, hB⟩
        exact hK _ _ hB hu
      · obtain rfl := Option.some.inj ho
        have eg : v 40 = (.bool false) := HD.out ⟨3, .guard⟩ (by simp) rfl
        rw [eg] at q40
        have h0 : RFV wx (v 42) x := HD.out ⟨5, .data⟩ (by simp) rfl
        have h1 : RFV wx (v 44) c := HD.out ⟨7, .data⟩ (by simp) rfl
        clear q37 q38 q39 q41 q43 q45 q46 q47 q48 q49 q50 q51 q52 q53 q54 q55 sl3 sl4 sl5 ho hi
        go_simp
        (with_reducible refine (HQ3.out _ _ _ h0 h1).mono ?_)
        rintro e w2 ⟨u, rfl, hu, hB⟩
        exact hK _ _ hB hu
      · obtain rfl := Option.some.inj ho
        have eg : v 40 = (.bool false) := HD.out ⟨3, .guard⟩ (by simp) rfl
        rw [eg] at q40
        have e0 : v 45 = (.int .i64 q3) := HD.out ⟨8, .data⟩ (by simp) rfl
        rw [e0] at q45
        clear q37 q38 q39 q41 q42 q43 q44 q46 q47 q48 q49 q50 q51 q52 q53 q54 q55 sl3 sl4 sl5 ho hi
        go_simp
        exact hK _ _ (Below.refl _ _) rfl
      · obtain rfl := Option.some.inj ho
        have e0 : v 40 = (.bool false) := HD.out ⟨3, .data⟩ (by simp) rfl
        rw [e0] at q40
        have e1 : v 46 = (.bool false) := HD.out ⟨9, .data⟩ (by simp) rfl
        rw [e1] at q46
        clear q37 q38 q39 q41 q42 q43 q44 q45 q47 q48 q49 q50 q51 q52 q53 q54 q55 sl3 sl4 sl5 ho hi
        go_simp
        exact hK _ _ (Below.refl _ _) rfl
      · obtain rfl := Option.some.inj ho
        have e0 : v 47 = (.bool false) := HD.out ⟨10, .data⟩ (by simp) rfl
        rw [e0] at q47
        clear q37 q38 q39 q40 q41 q42 q43 q44 q45 q46 q48 q49 q50 q51 q52 q53 q54 q55 sl3 sl4 sl5 ho hi
        go_simp
        exact hK _ _ (Below.refl _ _) rfl
      · obtain rfl := Option.some.inj ho
        have eg : v 48 = (.bool false) := HD.out ⟨11, .guard⟩ (by simp) rfl
        rw [eg] at q48
        obtain ⟨k0, k1, k2⟩ := HF.out.bc
        have hP := (rfl : Value.agg #[.int .i64 t3, .int .i64 l3] = .agg #[.int .i64 t3, .int .i64 l3])
        clear q37 q38 q39 q40 q41 q42 q43 q44 q45 q46 q47 q49 q50 q51 q52 q53 q54 q55 sl3 sl4 ho hi
        go_simp
        exact hK _ _ (Below.refl _ _) hP
      · obtain rfl := Option.some.inj ho
        have eg : v 48 = (.bool false) := HD.out ⟨11, .guard⟩ (by simp) rfl
        rw [eg] at q48
        have e0 : v 49 = (.agg #[.int .i64 t3, .int .i64 l3]) := HD.out ⟨12, .data⟩ (by simp) rfl
        rw [e0] at q49
        clear q37 q38 q39 q40 q41 q42 q43 q44 q45 q46 q47 q50 q51 q52 q53 q54 q55 sl3 sl4 sl5 ho hi
        go_simp
        (with_reducible refine (HTc.out _).mono ?_)
        rintro e w2 ⟨u, rfl, hu, hB⟩
        exact hK _ _ hB hu
      · obtain rfl := Option.some.inj ho
        have eg : v 48 = (.bool false) := HD.out ⟨11, .guard⟩ (by simp) rfl
        rw [eg] at q48
        obtain ⟨k0, k1, k2⟩ := HF.out.bb
        have hP := (rfl : Value.agg #[.int .i64 t2, .int .i64 l2] = .agg #[.int .i64 t2, .int .i64 l2])
        clear q37 q38 q39 q40 q41 q42 q43 q44 q45 q46 q47 q49 q50 q51 q52 q53 q54 q55 sl3 sl5 ho hi
        go_simp
        exact hK _ _ (Below.refl _ _) hP
      · obtain rfl := Option.some.inj ho
        have eg : v 48 = (.bool false) := HD.out ⟨11, .guard⟩ (by simp) rfl
        rw [eg] at q48
        have e0 : v 51 = (.agg #[.int .i64 t2, .int .i64 l2]) := HD.out ⟨14, .data⟩ (by simp) rfl
        rw [e0] at q51
        clear q37 q38 q39 q40 q41 q42 q43 q44 q45 q46 q47 q49 q50 q52 q53 q54 q55 sl3 sl4 sl5 ho hi
        go_simp
        (with_reducible refine (HTb.out _).mono ?_)
        rintro e w2 ⟨u, rfl, hu, hB⟩
        exact hK _ _ hB hu
      · obtain rfl := Option.some.inj ho
        have eg : v 48 = (.bool false) := HD.out ⟨11, .guard⟩ (by simp) rfl
        rw [eg] at q48
        have h0 : RFV wx (v 50) c := HD.out ⟨13, .data⟩ (by simp) rfl
        have h1 : RFV wx (v 52) y := HD.out ⟨15, .data⟩ (by simp) rfl
        clear q37 q38 q39 q40 q41 q42 q43 q44 q45 q46 q47 q49 q51 q53 q54 q55 sl3 sl4 sl5 ho hi
        go_simp
        (with_reducible refine (HQ4.out _ _ _ h0 h1).mono ?_)
        rintro e w2 ⟨u, rfl, hu, hB⟩
        exact hK _ _ hB hu
      · obtain rfl := Option.some.inj ho
        have eg : v 48 = (.bool false) := HD.out ⟨11, .guard⟩ (by simp) rfl
        rw [eg] at q48
        have e0 : v 53 = (.int .i64 q4) := HD.out ⟨16, .data⟩ (by simp) rfl
        rw [e0] at q53
        clear q37 q38 q39 q40 q41 q42 q43 q44 q45 q46 q47 q49 q50 q51 q52 q54 q55 sl3 sl4 sl5 ho hi
        go_simp
        exact hK _ _ (Below.refl _ _) rfl
      · obtain rfl := Option.some.inj ho
        have e0 : v 48 = (.bool false) := HD.out ⟨11, .data⟩ (by simp) rfl
        rw [e0] at q48
        have e1 : v 54 = (.bool true) := HD.out ⟨17, .data⟩ (by simp) rfl
        rw [e1] at q54
        clear q37 q38 q39 q40 q41 q42 q43 q44 q45 q46 q47 q49 q50 q51 q52 q53 q55 sl3 sl4 sl5 ho hi
        go_simp
        exact hK _ _ (Below.refl _ _) rfl
    · intro v wx hF hall
      have h18 : v 55 = .bool true := hall 18 (by decide)
      have HF := Lib.hid hF
      clear hF hall
      simp only [over, List.setIfInBounds_toArray, List.set_cons_zero, List.set_cons_succ]
      rw [h18]
      generalize v 37 = v37
      generalize v 38 = v38
      generalize v 39 = v39
      generalize v 40 = v40
      generalize v 41 = v41
      generalize v 42 = v42
      generalize v 43 = v43
      generalize v 44 = v44
      generalize v 45 = v45
      generalize v 46 = v46
      generalize v 47 = v47
      generalize v 48 = v48
      generalize v 49 = v49
      generalize v 50 = v50
      generalize v 51 = v51
      generalize v 52 = v52
      generalize v 53 = v53
      generalize v 54 = v54
      go_wp2_with fail
      (with_reducible refine (HA.out _).mono ?_)
      rintro e wa ⟨rfl, hB⟩
      have hb := stepB HF.out.below hB
      clear hB HF
      go_wp2_with fail
      go_ret
      exact ⟨rfl, hb⟩

set_option maxRecDepth 100000 in
set_option maxHeartbeats 20000000 in
theorem least_more (t1 l1 t2 l2 t3 l3 p1 p2 : Int) (q1 q2 q3 q4 : Int) (x y z c : Rat) (w : World) (hq1 : decide (0 < q1) = false) (hq2 : decide (0 < q2) = false) (hq3 : decide (0 < q3) = false) (hq4 : decide (0 < q4) = false) (g1 : decide (p2 < l3) = true)
    (H1 : Hid (∀ wx, Calls Try.prog 15 #[.agg #[.int .i64 t1, .int .i64 l1], .agg #[.int .i64 t2, .int .i64 l2]] wx (Rt p1 p2 0 wx))) (HA : Hid (∀ wx, Calls Try.prog 13 #[] wx fun e w' => e = .returned (.bool true) ∧ Below wx.heap.size wx w'))
    (HVp : Hid (∀ wx, Calls Try.prog 17 #[.agg #[.int .i64 p1, .int .i64 p2]] wx (RetV (.val (.bool true)) wx))) (HTa : Hid (∀ wx, Calls Try.prog 18 #[.agg #[.int .i64 t1, .int .i64 l1]] wx (RetV (.rat x) wx))) (HTb : Hid (∀ wx, Calls Try.prog 18 #[.agg #[.int .i64 t2, .int .i64 l2]] wx (RetV (.rat y) wx))) (HTp : Hid (∀ wx, Calls Try.prog 18 #[.agg #[.int .i64 p1, .int .i64 p2]] wx (RetV (.rat z) wx)))
    (HQ1 : Hid (∀ wx u u', RFV wx u x → RFV wx u' z → Calls Try.prog 19 #[u, u'] wx (RetV (.val (.int .i64 q1)) wx))) (HQ2 : Hid (∀ wx u u', RFV wx u z → RFV wx u' y → Calls Try.prog 19 #[u, u'] wx (RetV (.val (.int .i64 q2)) wx)))
    (HVc : Hid (∀ wx, Calls Try.prog 17 #[.agg #[.int .i64 t3, .int .i64 l3]] wx (RetV (.val (.bool true)) wx))) (HTc : Hid (∀ wx, Calls Try.prog 18 #[.agg #[.int .i64 t3, .int .i64 l3]] wx (RetV (.rat c) wx))) (HQ3 : Hid (∀ wx u u', RFV wx u x → RFV wx u' c → Calls Try.prog 19 #[u, u'] wx (RetV (.val (.int .i64 q3)) wx))) (HQ4 : Hid (∀ wx u u', RFV wx u c → RFV wx u' y → Calls Try.prog 19 #[u, u'] wx (RetV (.val (.int .i64 q4)) wx))) :
    Calls Try.prog 6 #[.agg #[.int .i64 t1, .int .i64 l1], .agg #[.int .i64 t2, .int .i64 l2], .agg #[.int .i64 t3, .int .i64 l3]] w fun e w' => e = .returned (.bool true) ∧ Below w.heap.size w w' := by
  go_enter Try.func6, Try.ntmps6
  go_upto_region 1 with fail
  generalize hX : ((w.alloc _).alloc _).alloc _ = X
  have HX : Hid (Below w.heap.size w X ∧ B2n w.heap.size (.int .i64 t1) (.int .i64 l1) X ∧ B2n (w.heap.size + 1) (.int .i64 t2) (.int .i64 l2) X ∧ B2n (w.heap.size + 1 + 1) (.int .i64 t3) (.int .i64 l3) X) := by
    subst hX
    exact ⟨(((Below.refl _ _).alloc (Nat.le_refl _) _).alloc (by simp) _).alloc (by simp; omega) _, by simp [B2n, go_sem], by simp [B2n, go_sem], by simp [B2n, go_sem]⟩
  clear hX
  obtain ⟨k0, k1, -⟩ := HX.out.2.1
  obtain ⟨j0, j1, -⟩ := HX.out.2.2.1
  go_wp2_with fail
  (with_reducible refine (H1.out _).mono ?_)
  rintro e w1 ⟨rfl, hB1⟩
  have H1B := Lib.hid hB1
  clear k0 k1 j0 j1 hB1 H1
  go_upto_region 4 with fail
  generalize hY : w1.alloc _ = Y
  have HY : Hid (FL w w1.heap.size (.int .i64 t1) (.int .i64 l1) (.int .i64 t2) (.int .i64 l2) (.int .i64 t3) (.int .i64 l3) (.int .i64 p1) (.int .i64 p2) Y) := by
    have hB : Below w1.heap.size w1 Y := by subst hY; exact below_alloc _ _
    have hXY : Below X.heap.size X Y := stepB H1B.out hB
    exact ⟨HX.out.1.trans (hXY.mono HX.out.1.size), HX.out.2.1.keep hXY, HX.out.2.2.1.keep hXY, HX.out.2.2.2.keep hXY, by subst hY; simp [B2n, go_sem]⟩
  clear hY HX H1B
  generalize w1.heap.size = gp at HY ⊢
  clear w1
  refine wp_region_flow 19 [18, 19, 20, 21, 22, 23, 24, 25, 26, 27, 28, 29, 30, 31, 32, 33, 34, 35, 36] (fun i => 18 + i) (FL w gp (.int .i64 t1) (.int .i64 l1) (.int .i64 t2) (.int .i64 l2) (.int .i64 t3) (.int .i64 l3) (.int .i64 p1) (.int .i64 p2)) (Spl [.val (.agg #[.int .i64 p1, .int .i64 p2]), .val (.bool true), .val (.bool false), .val (.bool false), .val (.agg #[.int .i64 t1, .int .i64 l1]), .rat x, .val (.agg #[.int .i64 p1, .int .i64 p2]), .rat z, .val (.int .i64 q1), .val (.bool false), .val (.bool false), .val (.bool false), .val (.agg #[.int .i64 p1, .int .i64 p2]), .rat z, .val (.agg #[.int .i64 t2, .int .i64 l2]), .rat y, .val (.int .i64 q2), .val (.bool false), .val (.bool false)]) (by kernel_rfl) (by kernel_rfl) (by kernel_rfl) (by kernel_rfl) (fun i j _ _ h => Nat.add_left_cancel (show 18 + i = 18 + j from h)) (by decide) FL.keep Spl.keep ?_ ?_ ?_
  · exact HY.out.keep _ _ (Below.drew (Below.refl _ _))
  · intro i v wx o T' K ho hF hdep hin hout hK
    have hi : i < 19 := (Array.getElem?_eq_some_iff.1 ho).1
    have q18 := hin 18 (by decide)
    have q19 := hin 19 (by decide)
    have q20 := hin 20 (by decide)
    have q21 := hin 21 (by decide)
    have q22 := hin 22 (by decide)
    have q23 := hin 23 (by decide)
    have q24 := hin 24 (by decide)
    have q25 := hin 25 (by decide)
    have q26 := hin 26 (by decide)
    have q27 := hin 27 (by decide)
    have q28 := hin 28 (by decide)
    have q29 := hin 29 (by decide)
    have q30 := hin 30 (by decide)
    have q31 := hin 31 (by decide)
    have q32 := hin 32 (by decide)
    have q33 := hin 33 (by decide)
    have q34 := hin 34 (by decide)
    have q35 := hin 35 (by decide)
    have q36 := hin 36 (by decide)
    have sl3 : T'[3]? = some (.pointer (some ⟨w.heap.size, 0, none⟩)) := (hout 3 (by decide)).trans rfl
    have sl4 : T'[4]? = some (.pointer (some ⟨w.heap.size + 1, 0, none⟩)) := (hout 4 (by decide)).trans rfl
    have sl7 : T'[7]? = some (.pointer (some ⟨gp, 0, none⟩)) := (hout 7 (by decide)).trans rfl
    clear hin hout
    have HF := Lib.hid hF
    have HD := Lib.hid hdep
    clear hF hdep
    rcases (by omega : i = 0 ∨ i = 1 ∨ i = 2 ∨ i = 3 ∨ i = 4 ∨ i = 5 ∨ i = 6 ∨ i = 7 ∨ i = 8 ∨ i = 9 ∨ i = 10 ∨ i = 11 ∨ i = 12 ∨ i = 13 ∨ i = 14 ∨ i = 15 ∨ i = 16 ∨ i = 17 ∨ i = 18) with rfl | rfl | rfl | rfl | rfl | rfl | rfl | rfl | rfl | rfl | rfl | rfl | rfl | rfl | rfl | rfl | rfl | rfl | rfl
    · obtain rfl := Option.some.inj ho
      obtain ⟨k0, k1, k2⟩ := HF.out.bp
      have hP := (rfl : Value.agg #[.int .i64 p1, .int .i64 p2] = .agg #[.int .i64 p1, .int .i64 p2])
      clear q18 q19 q20 q21 q22 q23 q24 q25 q26 q27 q28 q29 q30 q31 q32 q33 q34 q35 q36 sl3 sl4 ho hi
      go_simp
      exact hK _ _ (Below.refl _ _) hP
    · obtain rfl := Option.some.inj ho
      have e0 : v 18 = (.agg #[.int .i64 p1, .int .i64 p2]) := HD.out ⟨0, .data⟩ (by simp) rfl
      rw [e0] at q18
      clear q19 q20 q21 q22 q23 q24 q25 q26 q27 q28 q29 q30 q31 q32 q33 q34 q35 q36 sl3 sl4 sl7 ho hi
      go_simp
      (with_reducible refine (HVp.out _).mono ?_)
      rintro e w2 ⟨u, rfl, hu, hB⟩
      exact hK _ _ hB hu
    · obtain rfl := Option.some.inj ho
      have e0 : v 19 = (.bool true) := HD.out ⟨1, .data⟩ (by simp) rfl
      rw [e0] at q19
      clear q18 q20 q21 q22 q23 q24 q25 q26 q27 q28 q29 q30 q31 q32 q33 q34 q35 q36 sl3 sl4 sl7 ho hi
      go_simp
      exact hK _ _ (Below.refl _ _) rfl
    · obtain rfl := Option.some.inj ho
      have e0 : v 20 = (.bool false) := HD.out ⟨2, .data⟩ (by simp) rfl
      rw [e0] at q20
      clear q18 q19 q21 q22 q23 q24 q25 q26 q27 q28 q29 q30 q31 q32 q33 q34 q35 q36 sl3 sl4 sl7 ho hi
      go_simp
      exact hK _ _ (Below.refl _ _) rfl
    · obtain rfl := Option.some.inj ho
      have eg : v 21 = (.bool false) := HD.out ⟨3, .guard⟩ (by simp) rfl
      rw [eg] at q21
      obtain ⟨k0, k1, k2⟩ := HF.out.ba
      have hP := (rfl : Value.agg #[.int .i64 t1, .int .i64 l1] = .agg #[.int .i64 t1, .int .i64 l1])
      clear q18 q19 q20 q22 q23 q24 q25 q26 q27 q28 q29 q30 q31 q32 q33 q34 q35 q36 sl4 sl7 ho hi
      go_simp
      exact hK _ _ (Below.refl _ _) hP
    · obtain rfl := Option.some.inj ho
      have eg : v 21 = (.bool false) := HD.out ⟨3, .guard⟩ (by simp) rfl
      rw [eg] at q21
      have e0 : v 22 = (.agg #[.int .i64 t1, .int .i64 l1]) := HD.out ⟨4, .data⟩ (by simp) rfl
      rw [e0] at q22
      clear q18 q19 q20 q23 q24 q25 q26 q27 q28 q29 q30 q31 q32 q33 q34 q35 q36 sl3 sl4 sl7 ho hi
      go_simp
      (with_reducible refine (HTa.out _).mono ?_)
      rintro e w2 ⟨u, rfl, hu, hB⟩
      exact hK _ _ hB hu
    · obtain rfl := Option.some.inj ho
      have eg : v 21 = (.bool false) := HD.out ⟨3, .guard⟩ (by simp) rfl
      rw [eg] at q21
      obtain ⟨k0, k1, k2⟩ := HF.out.bp
      have hP := (rfl : Value.agg #[.int .i64 p1, .int .i64 p2] = .agg #[.int .i64 p1, .int .i64 p2])
      clear q18 q19 q20 q22 q23 q24 q25 q26 q27 q28 q29 q30 q31 q32 q33 q34 q35 q36 sl3 sl4 ho hi
      go_simp
      exact hK _ _ (Below.refl _ _) hP
    · obtain rfl := Option.some.inj ho
      have eg : v 21 = (.bool false) := HD.out ⟨3, .guard⟩ (by simp) rfl
      rw [eg] at q21
      have e0 : v 24 = (.agg #[.int .i64 p1, .int .i64 p2]) := HD.out ⟨6, .data⟩ (by simp) rfl
      rw [e0] at q24
      clear q18 q19 q20 q22 q23 q25 q26 q27 q28 q29 q30 q31 q32 q33 q34 q35 q36 sl3 sl4 sl7 ho hi
      go_simp
      (with_reducible refine (HTp.out _).mono ?_)
      rintro e w2 ⟨u, rfl, hu, hB⟩
      exact hK _ _ hB hu
    · obtain rfl := Option.some.inj ho
      have eg : v 21 = (.bool false) := HD.out ⟨3, .guard⟩ (by simp) rfl
      rw [eg] at q21
      have h0 : RFV wx (v 23) x := HD.out ⟨5, .data⟩ (by simp) rfl
      have h1 : RFV wx (v 25) z := HD.out ⟨7, .data⟩ (by simp) rfl
      clear q18 q19 q20 q22 q24 q26 q27 q28 q29 q30 q31 q32 q33 q34 q35 q36 sl3 sl4 sl7 ho hi
      go_simp
      (with_reducible refine (HQ1.out _ _ _ h0 h1).mono ?_)
      rintro e w2 ⟨u, rfl, hu, hB⟩
      exact hK _ _ hB hu
    · obtain rfl := Option.some.inj ho
      have eg : v 21 = (.bool false) := HD.out ⟨3, .guard⟩ (by simp) rfl
      rw [eg] at q21
      have e0 : v 26 = (.int .i64 q1) := HD.out ⟨8, .data⟩ (by simp) rfl
      rw [e0] at q26
      clear q18 q19 q20 q22 q23 q24 q25 q27 q28 q29 q30 q31 q32 q33 q34 q35 q36 sl3 sl4 sl7 ho hi
      go_simp
      exact hK _ _ (Below.refl _ _) rfl
    · obtain rfl := Option.some.inj ho
      have e0 : v 21 = (.bool false) := HD.out ⟨3, .data⟩ (by simp) rfl
      rw [e0] at q21
      have e1 : v 27 = (.bool false) := HD.out ⟨9, .data⟩ (by simp) rfl
      rw [e1] at q27
      clear q18 q19 q20 q22 q23 q24 q25 q26 q28 q29 q30 q31 q32 q33 q34 q35 q36 sl3 sl4 sl7 ho hi
      go_simp
      exact hK _ _ (Below.refl _ _) rfl
    · obtain rfl := Option.some.inj ho
      have e0 : v 28 = (.bool false) := HD.out ⟨10, .data⟩ (by simp) rfl
      rw [e0] at q28
      clear q18 q19 q20 q21 q22 q23 q24 q25 q26 q27 q29 q30 q31 q32 q33 q34 q35 q36 sl3 sl4 sl7 ho hi
      go_simp
      exact hK _ _ (Below.refl _ _) rfl
    · obtain rfl := Option.some.inj ho
      have eg : v 29 = (.bool false) := HD.out ⟨11, .guard⟩ (by simp) rfl
      rw [eg] at q29
      obtain ⟨k0, k1, k2⟩ := HF.out.bp
      have hP := (rfl : Value.agg #[.int .i64 p1, .int .i64 p2] = .agg #[.int .i64 p1, .int .i64 p2])
      clear q18 q19 q20 q21 q22 q23 q24 q25 q26 q27 q28 q30 q31 q32 q33 q34 q35 q36 sl3 sl4 ho hi
      go_simp
      exact hK _ _ (Below.refl _ _) hP
    · obtain rfl := Option.some.inj ho
      have eg : v 29 = (.bool false) := HD.out ⟨11, .guard⟩ (by simp) rfl
      rw [eg] at q29
      have e0 : v 30 = (.agg #[.int .i64 p1, .int .i64 p2]) := HD.out ⟨12, .data⟩ (by simp) rfl
      rw [e0] at q30
      clear q18 q19 q20 q21 q22 q23 q24 q25 q26 q27 q28 q31 q32 q33 q34 q35 q36 sl3 sl4 sl7 ho hi
      go_simp
      (with_reducible refine (HTp.out _).mono ?_)
      rintro e w2 ⟨u, rfl, hu, hB⟩
      exact hK _ _ hB hu
    · obtain rfl := Option.some.inj ho
      have eg : v 29 = (.bool false) := HD.out ⟨11, .guard⟩ (by simp) rfl
      rw [eg] at q29
      obtain ⟨k0, k1, k2⟩ := HF.out.bb
      have hP := (rfl : Value.agg #[.int .i64 t2, .int .i64 l2] = .agg #[.int .i64 t2, .int .i64 l2])
      clear q18 q19 q20 q21 q22 q23 q24 q25 q26 q27 q28 q30 q31 q32 q33 q34 q35 q36 sl3 sl7 ho hi
      go_simp
      exact hK _ _ (Below.refl _ _) hP
    · obtain rfl := Option.some.inj ho
      have eg : v 29 = (.bool false) := HD.out ⟨11, .guard⟩ (by simp) rfl
      rw [eg] at q29
      have e0 : v 32 = (.agg #[.int .i64 t2, .int .i64 l2]) := HD.out ⟨14, .data⟩ (by simp) rfl
      rw [e0] at q32
      clear q18 q19 q20 q21 q22 q23 q24 q25 q26 q27 q28 q30 q31 q33 q34 q35 q36 sl3 sl4 sl7 ho hi
      go_simp
      (with_reducible refine (HTb.out _).mono ?_)
      rintro e w2 ⟨u, rfl, hu, hB⟩
      exact hK _ _ hB hu
    · obtain rfl := Option.some.inj ho
      have eg : v 29 = (.bool false) := HD.out ⟨11, .guard⟩ (by simp) rfl
      rw [eg] at q29
      have h0 : RFV wx (v 31) z := HD.out ⟨13, .data⟩ (by simp) rfl
      have h1 : RFV wx (v 33) y := HD.out ⟨15, .data⟩ (by simp) rfl
      clear q18 q19 q20 q21 q22 q23 q24 q25 q26 q27 q28 q30 q32 q34 q35 q36 sl3 sl4 sl7 ho hi
      go_simp
      (with_reducible refine (HQ2.out _ _ _ h0 h1).mono ?_)
      rintro e w2 ⟨u, rfl, hu, hB⟩
      exact hK _ _ hB hu
    · obtain rfl := Option.some.inj ho
      have eg : v 29 = (.bool false) := HD.out ⟨11, .guard⟩ (by simp) rfl
      rw [eg] at q29
      have e0 : v 34 = (.int .i64 q2) := HD.out ⟨16, .data⟩ (by simp) rfl
      rw [e0] at q34
      clear q18 q19 q20 q21 q22 q23 q24 q25 q26 q27 q28 q30 q31 q32 q33 q35 q36 sl3 sl4 sl7 ho hi
      go_simp
      exact hK _ _ (Below.refl _ _) rfl
    · obtain rfl := Option.some.inj ho
      have e0 : v 29 = (.bool false) := HD.out ⟨11, .data⟩ (by simp) rfl
      rw [e0] at q29
      have e1 : v 35 = (.bool false) := HD.out ⟨17, .data⟩ (by simp) rfl
      rw [e1] at q35
      clear q18 q19 q20 q21 q22 q23 q24 q25 q26 q27 q28 q30 q31 q32 q33 q34 q36 sl3 sl4 sl7 ho hi
      go_simp
      exact hK _ _ (Below.refl _ _) rfl
  · intro v wx hF hall
    have h18 : v 36 = .bool false := hall 18 (by decide)
    have HF := Lib.hid hF
    clear hF hall
    simp only [over, List.setIfInBounds_toArray, List.set_cons_zero, List.set_cons_succ]
    rw [h18]
    generalize v 18 = v18
    generalize v 19 = v19
    generalize v 20 = v20
    generalize v 21 = v21
    generalize v 22 = v22
    generalize v 23 = v23
    generalize v 24 = v24
    generalize v 25 = v25
    generalize v 26 = v26
    generalize v 27 = v27
    generalize v 28 = v28
    generalize v 29 = v29
    generalize v 30 = v30
    generalize v 31 = v31
    generalize v 32 = v32
    generalize v 33 = v33
    generalize v 34 = v34
    generalize v 35 = v35
    clear HVp HTp HQ1 HQ2 hq1 hq2
    go_upto_region 6 with fail
    refine wp_region_flow 19 [37, 38, 39, 40, 41, 42, 43, 44, 45, 46, 47, 48, 49, 50, 51, 52, 53, 54, 55] (fun i => 37 + i) (FL w gp (.int .i64 t1) (.int .i64 l1) (.int .i64 t2) (.int .i64 l2) (.int .i64 t3) (.int .i64 l3) (.int .i64 p1) (.int .i64 p2)) (Spl [.val (.agg #[.int .i64 t3, .int .i64 l3]), .val (.bool true), .val (.bool false), .val (.bool false), .val (.agg #[.int .i64 t1, .int .i64 l1]), .rat x, .val (.agg #[.int .i64 t3, .int .i64 l3]), .rat c, .val (.int .i64 q3), .val (.bool false), .val (.bool false), .val (.bool false), .val (.agg #[.int .i64 t3, .int .i64 l3]), .rat c, .val (.agg #[.int .i64 t2, .int .i64 l2]), .rat y, .val (.int .i64 q4), .val (.bool false), .val (.bool false)]) (by kernel_rfl) (by kernel_rfl) (by kernel_rfl) (by kernel_rfl) (fun i j _ _ h => Nat.add_left_cancel (show 37 + i = 37 + j from h)) (by decide) FL.keep Spl.keep ?_ ?_ ?_
    · exact HF.out.keep _ _ (Below.drew (Below.refl _ _))
    · intro i v wx o T' K ho hF hdep hin hout hK
      have hi : i < 19 := (Array.getElem?_eq_some_iff.1 ho).1
      have q37 := hin 37 (by decide)
      have q38 := hin 38 (by decide)
      have q39 := hin 39 (by decide)
      have q40 := hin 40 (by decide)
      have q41 := hin 41 (by decide)
      have q42 := hin 42 (by decide)
      have q43 := hin 43 (by decide)
      have q44 := hin 44 (by decide)
      have q45 := hin 45 (by decide)
      have q46 := hin 46 (by decide)
      have q47 := hin 47 (by decide)
      have q48 := hin 48 (by decide)
      have q49 := hin 49 (by decide)
      have q50 := hin 50 (by decide)
      have q51 := hin 51 (by decide)
      have q52 := hin 52 (by decide)
      have q53 := hin 53 (by decide)
      have q54 := hin 54 (by decide)
      have q55 := hin 55 (by decide)
      have sl3 : T'[3]? = some (.pointer (some ⟨w.heap.size, 0, none⟩)) := (hout 3 (by decide)).trans rfl
      have sl4 : T'[4]? = some (.pointer (some ⟨w.heap.size + 1, 0, none⟩)) := (hout 4 (by decide)).trans rfl
      have sl5 : T'[5]? = some (.pointer (some ⟨w.heap.size + 1 + 1, 0, none⟩)) := (hout 5 (by decide)).trans rfl
      clear hin hout
      have HF := Lib.hid hF
      have HD := Lib.hid hdep
      clear hF hdep
      rcases (by omega : i = 0 ∨ i = 1 ∨ i = 2 ∨ i = 3 ∨ i = 4 ∨ i = 5 ∨ i = 6 ∨ i = 7 ∨ i = 8 ∨ i = 9 ∨ i = 10 ∨ i = 11 ∨ i = 12 ∨ i = 13 ∨ i = 14 ∨ i = 15 ∨ i = 16 ∨ i = 17 ∨ i = 18) with rfl | rfl | rfl | rfl | rfl | rfl | rfl | rfl | rfl | rfl | rfl | rfl | rfl | rfl | rfl | rfl | rfl | rfl | rfl
      · obtain rfl := Option.some.inj ho
        obtain ⟨k0, k1, k2⟩ := HF.out.bc
        have hP := (rfl : Value.agg #[.int .i64 t3, .int .i64 l3] = .agg #[.int .i64 t3, .int .i64 l3])
        clear q37 q38 q39 q40 q41 q42 q43 q44 q45 q46 q47 q48 q49 q50 q51 q52 q53 q54 q55 sl3 sl4 ho hi
        go_simp
        exact hK _ _ (Below.refl _ _) hP
      · obtain rfl := Option.some.inj ho
        have e0 : v 37 = (.agg #[.int .i64 t3, .int .i64 l3]) := HD.out ⟨0, .data⟩ (by simp) rfl
        rw [e0] at q37
        clear q38 q39 q40 q41 q42 q43 q44 q45 q46 q47 q48 q49 q50 q51 q52 q53 q54 q55 sl3 sl4 sl5 ho hi
        go_simp
        (with_reducible refine (HVc.out _).mono ?_)
        rintro e w2 ⟨u, rfl, hu, hB⟩
        exact hK _ _ hB hu
      · obtain rfl := Option.some.inj ho
        have e0 : v 38 = (.bool true) := HD.out ⟨1, .data⟩ (by simp) rfl
        rw [e0] at q38
        clear q37 q39 q40 q41 q42 q43 q44 q45 q46 q47 q48 q49 q50 q51 q52 q53 q54 q55 sl3 sl4 sl5 ho hi
        go_simp
        exact hK _ _ (Below.refl _ _) rfl
      · obtain rfl := Option.some.inj ho
        have e0 : v 39 = (.bool false) := HD.out ⟨2, .data⟩ (by simp) rfl
        rw [e0] at q39
        clear q37 q38 q40 q41 q42 q43 q44 q45 q46 q47 q48 q49 q50 q51 q52 q53 q54 q55 sl3 sl4 sl5 ho hi
        go_simp
        exact hK _ _ (Below.refl _ _) rfl
      · obtain rfl := Option.some.inj ho
        have eg : v 40 = (.bool false) := HD.out ⟨3, .guard⟩ (by simp) rfl
        rw [eg] at q40
        obtain ⟨k0, k1, k2⟩ := HF.out.ba
        have hP := (rfl : Value.agg #[.int .i64 t1, .int .i64 l1] = .agg #[.int .i64 t1, .int .i64 l1])
        clear q37 q38 q39 q41 q42 q43 q44 q45 q46 q47 q48 q49 q50 q51 q52 q53 q54 q55 sl4 sl5 ho hi
        go_simp
        exact hK _ _ (Below.refl _ _) hP
      · obtain rfl := Option.some.inj ho
        have eg : v 40 = (.bool false) := HD.out ⟨3, .guard⟩ (by simp) rfl
        rw [eg] at q40
        have e0 : v 41 = (.agg #[.int .i64 t1, .int .i64 l1]) := HD.out ⟨4, .data⟩ (by simp) rfl
        rw [e0] at q41
        clear q37 q38 q39 q42 q43 q44 q45 q46 q47 q48 q49 q50 q51 q52 q53 q54 q55 sl3 sl4 sl5 ho hi
        go_simp
        (with_reducible refine (HTa.out _).mono ?_)
        rintro e w2 ⟨u, rfl, hu, hB⟩
        exact hK _ _ hB hu
      · obtain rfl := Option.some.inj ho
        have eg : v 40 = (.bool false) := HD.out ⟨3, .guard⟩ (by simp) rfl
        rw [eg] at q40
        obtain ⟨k0, k1, k2⟩ := HF.out.bc
        have hP := (rfl : Value.agg #[.int .i64 t3, .int .i64 l3] = .agg #[.int .i64 t3, .int .i64 l3])
        clear q37 q38 q39 q41 q42 q43 q44 q45 q46 q47 q48 q49 q50 q51 q52 q53 q54 q55 sl3 sl4 ho hi
        go_simp
        exact hK _ _ (Below.refl _ _) hP
      · obtain rfl := Option.some.inj ho
        have eg : v 40 = (.bool false) := HD.out ⟨3, .guard⟩ (by simp) rfl
        rw [eg] at q40
        have e0 : v 43 = (.agg #[.int .i64 t3, .int .i64 l3]) := HD.out ⟨6, .data⟩ (by simp) rfl
        rw [e0] at q43
        clear q37 q38 q39 q41 q42 q44 q45 q46 q47 q48 q49 q50 q51 q52 q53 q54 q55 sl3 sl4 sl5 ho hi
        go_simp
        (with_reducible refine (HTc.out _).mono ?_)
        rintro e w2 ⟨u, rfl, hu, hB⟩
        exact hK _ _ hB hu
      · obtain rfl := Option.some.inj ho
        have eg : v 40 = (.bool false) := HD.out ⟨3, .guard⟩ (by simp) rfl
        rw [eg] at q40
        have h0 : RFV wx (v 42) x := HD.out ⟨5, .data⟩ (by simp) rfl
        have h1 : RFV wx (v 44) c := HD.out ⟨7, .data⟩ (by simp) rfl
        clear q37 q38 q39 q41 q43 q45 q46 q47 q48 q49 q50 q51 q52 q53 q54 q55 sl3 sl4 sl5 ho hi
        go_simp
        (with_reducible refine (HQ3.out _ _ _ h0 h1).mono ?_)
        rintro e w2 ⟨u, rfl, hu, hB⟩
        exact hK _ _ hB hu
      · obtain rfl := Option.some.inj ho
        have eg : v 40 = (.bool false) := HD.out ⟨3, .guard⟩ (by simp) rfl
        rw [eg] at q40
        have e0 : v 45 = (.int .i64 q3) := HD.out ⟨8, .data⟩ (by simp) rfl
        rw [e0] at q45
        clear q37 q38 q39 q41 q42 q43 q44 q46 q47 q48 q49 q50 q51 q52 q53 q54 q55 sl3 sl4 sl5 ho hi
        go_simp
        exact hK _ _ (Below.refl _ _) rfl
      · obtain rfl := Option.some.inj ho
        have e0 : v 40 = (.bool false) := HD.out ⟨3, .data⟩ (by simp) rfl
        rw [e0] at q40
        have e1 : v 46 = (.bool false) := HD.out ⟨9, .data⟩ (by simp) rfl
        rw [e1] at q46
        clear q37 q38 q39 q41 q42 q43 q44 q45 q47 q48 q49 q50 q51 q52 q53 q54 q55 sl3 sl4 sl5 ho hi
        go_simp
        exact hK _ _ (Below.refl _ _) rfl
      · obtain rfl := Option.some.inj ho
        have e0 : v 47 = (.bool false) := HD.out ⟨10, .data⟩ (by simp) rfl
        rw [e0] at q47
        clear q37 q38 q39 q40 q41 q42 q43 q44 q45 q46 q48 q49 q50 q51 q52 q53 q54 q55 sl3 sl4 sl5 ho hi
        go_simp
        exact hK _ _ (Below.refl _ _) rfl
      · obtain rfl := Option.some.inj ho
        have eg : v 48 = (.bool false) := HD.out ⟨11, .guard⟩ (by simp) rfl
        rw [eg] at q48
        obtain ⟨k0, k1, k2⟩ := HF.out.bc
        have hP := (rfl : Value.agg #[.int .i64 t3, .int .i64 l3] = .agg #[.int .i64 t3, .int .i64 l3])
        clear q37 q38 q39 q40 q41 q42 q43 q44 q45 q46 q47 q49 q50 q51 q52 q53 q54 q55 sl3 sl4 ho hi
        go_simp
        exact hK _ _ (Below.refl _ _) hP
      · obtain rfl := Option.some.inj ho
        have eg : v 48 = (.bool false) := HD.out ⟨11, .guard⟩ (by simp) rfl
        rw [eg] at q48
        have e0 : v 49 = (.agg #[.int .i64 t3, .int .i64 l3]) := HD.out ⟨12, .data⟩ (by simp) rfl
        rw [e0] at q49
        clear q37 q38 q39 q40 q41 q42 q43 q44 q45 q46 q47 q50 q51 q52 q53 q54 q55 sl3 sl4 sl5 ho hi
        go_simp
        (with_reducible refine (HTc.out _).mono ?_)
        rintro e w2 ⟨u, rfl, hu, hB⟩
        exact hK _ _ hB hu
      · obtain rfl := Option.some.inj ho
        have eg : v 48 = (.bool false) := HD.out ⟨11, .guard⟩ (by simp) rfl
        rw [eg] at q48
        obtain ⟨k0, k1, k2⟩ := HF.out.bb
        have hP := (rfl : Value.agg #[.int .i64 t2, .int .i64 l2] = .agg #[.int .i64 t2, .int .i64 l2])
        clear q37 q38 q39 q40 q41 q42 q43 q44 q45 q46 q47 q49 q50 q51 q52 q53 q54 q55 sl3 sl5 ho hi
        go_simp
        exact hK _ _ (Below.refl _ _) hP
      · obtain rfl := Option.some.inj ho
        have eg : v 48 = (.bool false) := HD.out ⟨11, .guard⟩ (by simp) rfl
        rw [eg] at q48
        have e0 : v 51 = (.agg #[.int .i64 t2, .int .i64 l2]) := HD.out ⟨14, .data⟩ (by simp) rfl
        rw [e0] at q51
        clear q37 q38 q39 q40 q41 q42 q43 q44 q45 q46 q47 q49 q50 q52 q53 q54 q55 sl3 sl4 sl5 ho hi
        go_simp
        (with_reducible refine (HTb.out _).mono ?_)
        rintro e w2 ⟨u, rfl, hu, hB⟩
        exact hK _ _ hB hu
      · obtain rfl := Option.some.inj ho
        have eg : v 48 = (.bool false) := HD.out ⟨11, .guard⟩ (by simp) rfl
        rw [eg] at q48
        have h0 : RFV wx (v 50) c := HD.out ⟨13, .data⟩ (by simp) rfl
        have h1 : RFV wx (v 52) y := HD.out ⟨15, .data⟩ (by simp) rfl
        clear q37 q38 q39 q40 q41 q42 q43 q44 q45 q46 q47 q49 q51 q53 q54 q55 sl3 sl4 sl5 ho hi
        go_simp
        (with_reducible refine (HQ4.out _ _ _ h0 h1).mono ?_)
        rintro e w2 ⟨u, rfl, hu, hB⟩
        exact hK _ _ hB hu
      · obtain rfl := Option.some.inj ho
        have eg : v 48 = (.bool false) := HD.out ⟨11, .guard⟩ (by simp) rfl
        rw [eg] at q48
        have e0 : v 53 = (.int .i64 q4) := HD.out ⟨16, .data⟩ (by simp) rfl
        rw [e0] at q53
        clear q37 q38 q39 q40 q41 q42 q43 q44 q45 q46 q47 q49 q50 q51 q52 q54 q55 sl3 sl4 sl5 ho hi
        go_simp
        exact hK _ _ (Below.refl _ _) rfl
      · obtain rfl := Option.some.inj ho
        have e0 : v 48 = (.bool false) := HD.out ⟨11, .data⟩ (by simp) rfl
        rw [e0] at q48
        have e1 : v 54 = (.bool false) := HD.out ⟨17, .data⟩ (by simp) rfl
        rw [e1] at q54
        clear q37 q38 q39 q40 q41 q42 q43 q44 q45 q46 q47 q49 q50 q51 q52 q53 q55 sl3 sl4 sl5 ho hi
        go_simp
        exact hK _ _ (Below.refl _ _) rfl
    · intro v wx hF hall
      have h18 : v 55 = .bool false := hall 18 (by decide)
      have HF := Lib.hid hF
      clear hF hall
      simp only [over, List.setIfInBounds_toArray, List.set_cons_zero, List.set_cons_succ]
      rw [h18]
      generalize v 37 = v37
      generalize v 38 = v38
      generalize v 39 = v39
      generalize v 40 = v40
      generalize v 41 = v41
      generalize v 42 = v42
      generalize v 43 = v43
      generalize v 44 = v44
      generalize v 45 = v45
      generalize v 46 = v46
      generalize v 47 = v47
      generalize v 48 = v48
      generalize v 49 = v49
      generalize v 50 = v50
      generalize v 51 = v51
      generalize v 52 = v52
      generalize v 53 = v53
      generalize v 54 = v54
      clear HVc HTc HQ3 HQ4 hq3 hq4 HTa HTb
      obtain ⟨k0, k1, -⟩ := HF.out.bc
      obtain ⟨j0, j1, -⟩ := HF.out.bp
      go_wp2_with fail
      (with_reducible refine (HA.out _).mono ?_)
      rintro e wa ⟨rfl, hB⟩
      have hb := stepB HF.out.below hB
      clear hB HF
      go_wp2_with fail
      go_ret
      exact ⟨rfl, hb⟩

set_option maxRecDepth 100000 in
set_option maxHeartbeats 20000000 in
theorem least_same (t1 l1 t2 l2 t3 l3 p1 p2 : Int) (q1 q2 q3 q4 : Int) (x y z c : Rat) (w : World) (hq1 : decide (0 < q1) = false) (hq2 : decide (0 < q2) = false) (hq3 : decide (0 < q3) = false) (hq4 : decide (0 < q4) = false) (n3 m3 : Int) (g1 : decide (p2 < l3) = false) (g2 : (l3 == p2) = true) (e1 : IntKind.i64.wrap (-t3) = n3) (e2 : IntKind.i64.wrap (-p1) = m3) (g3 : decide (max p1 m3 ≤ max t3 n3) = true)
    (H1 : Hid (∀ wx, Calls Try.prog 15 #[.agg #[.int .i64 t1, .int .i64 l1], .agg #[.int .i64 t2, .int .i64 l2]] wx (Rt p1 p2 0 wx))) (HA : Hid (∀ wx, Calls Try.prog 13 #[] wx fun e w' => e = .returned (.bool true) ∧ Below wx.heap.size wx w'))
    (HVp : Hid (∀ wx, Calls Try.prog 17 #[.agg #[.int .i64 p1, .int .i64 p2]] wx (RetV (.val (.bool true)) wx))) (HTa : Hid (∀ wx, Calls Try.prog 18 #[.agg #[.int .i64 t1, .int .i64 l1]] wx (RetV (.rat x) wx))) (HTb : Hid (∀ wx, Calls Try.prog 18 #[.agg #[.int .i64 t2, .int .i64 l2]] wx (RetV (.rat y) wx))) (HTp : Hid (∀ wx, Calls Try.prog 18 #[.agg #[.int .i64 p1, .int .i64 p2]] wx (RetV (.rat z) wx)))
    (HQ1 : Hid (∀ wx u u', RFV wx u x → RFV wx u' z → Calls Try.prog 19 #[u, u'] wx (RetV (.val (.int .i64 q1)) wx))) (HQ2 : Hid (∀ wx u u', RFV wx u z → RFV wx u' y → Calls Try.prog 19 #[u, u'] wx (RetV (.val (.int .i64 q2)) wx)))
    (HVc : Hid (∀ wx, Calls Try.prog 17 #[.agg #[.int .i64 t3, .int .i64 l3]] wx (RetV (.val (.bool true)) wx))) (HTc : Hid (∀ wx, Calls Try.prog 18 #[.agg #[.int .i64 t3, .int .i64 l3]] wx (RetV (.rat c) wx))) (HQ3 : Hid (∀ wx u u', RFV wx u x → RFV wx u' c → Calls Try.prog 19 #[u, u'] wx (RetV (.val (.int .i64 q3)) wx))) (HQ4 : Hid (∀ wx u u', RFV wx u c → RFV wx u' y → Calls Try.prog 19 #[u, u'] wx (RetV (.val (.int .i64 q4)) wx))) :
    Calls Try.prog 6 #[.agg #[.int .i64 t1, .int .i64 l1], .agg #[.int .i64 t2, .int .i64 l2], .agg #[.int .i64 t3, .int .i64 l3]] w fun e w' => e = .returned (.bool true) ∧ Below w.heap.size w w' := by
  go_enter Try.func6, Try.ntmps6
  go_upto_region 1 with fail
  generalize hX : ((w.alloc _).alloc _).alloc _ = X
  have HX : Hid (Below w.heap.size w X ∧ B2n w.heap.size (.int .i64 t1) (.int .i64 l1) X ∧ B2n (w.heap.size + 1) (.int .i64 t2) (.int .i64 l2) X ∧ B2n (w.heap.size + 1 + 1) (.int .i64 t3) (.int .i64 l3) X) := by
    subst hX
    exact ⟨(((Below.refl _ _).alloc (Nat.le_refl _) _).alloc (by simp) _).alloc (by simp; omega) _, by simp [B2n, go_sem], by simp [B2n, go_sem], by simp [B2n, go_sem]⟩
  clear hX
  obtain ⟨k0, k1, -⟩ := HX.out.2.1
  obtain ⟨j0, j1, -⟩ := HX.out.2.2.1
  go_wp2_with fail
  (with_reducible refine (H1.out _).mono ?_)
  rintro e w1 ⟨rfl, hB1⟩
  have H1B := Lib.hid hB1
  clear k0 k1 j0 j1 hB1 H1
  go_upto_region 4 with fail
  generalize hY : w1.alloc _ = Y
  have HY : Hid (FL w w1.heap.size (.int .i64 t1) (.int .i64 l1) (.int .i64 t2) (.int .i64 l2) (.int .i64 t3) (.int .i64 l3) (.int .i64 p1) (.int .i64 p2) Y) := by
    have hB : Below w1.heap.size w1 Y := by subst hY; exact below_alloc _ _
    have hXY : Below X.heap.size X Y := stepB H1B.out hB
    exact ⟨HX.out.1.trans (hXY.mono HX.out.1.size), HX.out.2.1.keep hXY, HX.out.2.2.1.keep hXY, HX.out.2.2.2.keep hXY, by subst hY; simp [B2n, go_sem]⟩
  clear hY HX H1B
  generalize w1.heap.size = gp at HY ⊢
  clear w1
  refine wp_region_flow 19 [18, 19, 20, 21, 22, 23, 24, 25, 26, 27, 28, 29, 30, 31, 32, 33, 34, 35, 36] (fun i => 18 + i) (FL w gp (.int .i64 t1) (.int .i64 l1) (.int .i64 t2) (.int .i64 l2) (.int .i64 t3) (.int .i64 l3) (.int .i64 p1) (.int .i64 p2)) (Spl [.val (.agg #[.int .i64 p1, .int .i64 p2]), .val (.bool true), .val (.bool false), .val (.bool false), .val (.agg #[.int .i64 t1, .int .i64 l1]), .rat x, .val (.agg #[.int .i64 p1, .int .i64 p2]), .rat z, .val (.int .i64 q1), .val (.bool false), .val (.bool false), .val (.bool false), .val (.agg #[.int .i64 p1, .int .i64 p2]), .rat z, .val (.agg #[.int .i64 t2, .int .i64 l2]), .rat y, .val (.int .i64 q2), .val (.bool false), .val (.bool false)]) (by kernel_rfl) (by kernel_rfl) (by kernel_rfl) (by kernel_rfl) (fun i j _ _ h => Nat.add_left_cancel (show 18 + i = 18 + j from h)) (by decide) FL.keep Spl.keep ?_ ?_ ?_
  · exact HY.out.keep _ _ (Below.drew (Below.refl _ _))
  · intro i v wx o T' K ho hF hdep hin hout hK
    have hi : i < 19 := (Array.getElem?_eq_some_iff.1 ho).1
    have q18 := hin 18 (by decide)
    have q19 := hin 19 (by decide)
    have q20 := hin 20 (by decide)
    have q21 := hin 21 (by decide)
    have q22 := hin 22 (by decide)
    have q23 := hin 23 (by decide)
    have q24 := hin 24 (by decide)
    have q25 := hin 25 (by decide)
    have q26 := hin 26 (by decide)
    have q27 := hin 27 (by decide)
    have q28 := hin 28 (by decide)
    have q29 := hin 29 (by decide)
    have q30 := hin 30 (by decide)
    have q31 := hin 31 (by decide)
    have q32 := hin 32 (by decide)
    have q33 := hin 33 (by decide)
    have q34 := hin 34 (by decide)
    have q35 := hin 35 (by decide)
    have q36 := hin 36 (by decide)
    have sl3 : T'[3]? = some (.pointer (some ⟨w.heap.size, 0, none⟩)) := (hout 3 (by decide)).trans rfl
    have sl4 : T'[4]? = some (.pointer (some ⟨w.heap.size + 1, 0, none⟩)) := (hout 4 (by decide)).trans rfl
    have sl7 : T'[7]? = some (.pointer (some ⟨gp, 0, none⟩)) := (hout 7 (by decide)).trans rfl
    clear hin hout
    have HF := Lib.hid hF
    have HD := Lib.hid hdep
    clear hF hdep
    rcases (by omega : i = 0 ∨ i = 1 ∨ i = 2 ∨ i = 3 ∨ i = 4 ∨ i = 5 ∨ i = 6 ∨ i = 7 ∨ i = 8 ∨ i = 9 ∨ i = 10 ∨ i = 11 ∨ i = 12 ∨ i = 13 ∨ i = 14 ∨ i = 15 ∨ i = 16 ∨ i = 17 ∨ i = 18) with rfl | rfl | rfl | rfl | rfl | rfl | rfl | rfl | rfl | rfl | rfl | rfl | rfl | rfl | rfl | rfl | rfl | rfl | rfl
    · obtain rfl := Option.some.inj ho
      obtain ⟨k0, k1, k2⟩ := HF.out.bp
      have hP := (rfl : Value.agg #[.int .i64 p1, .int .i64 p2] = .agg #[.int .i64 p1, .int .i64 p2])
      clear q18 q19 q20 q21 q22 q23 q24 q25 q26 q27 q28 q29 q30 q31 q32 q33 q34 q35 q36 sl3 sl4 ho hi
      go_simp
      exact hK _ _ (Below.refl _ _) hP
    · obtain rfl := Option.some.inj ho
      have e0 : v 18 = (.agg #[.int .i64 p1, .int .i64 p2]) := HD.out ⟨0, .data⟩ (by simp) rfl
      rw [e0] at q18
      clear q19 q20 q21 q22 q23 q24 q25 q26 q27 q28 q29 q30 q31 q32 q33 q34 q35 q36 sl3 sl4 sl7 ho hi
      go_simp
      (with_reducible refine (HVp.out _).mono ?_)
      rintro e w2 ⟨u, rfl, hu, hB⟩
      exact hK _ _ hB hu
    · obtain rfl := Option.some.inj ho
      have e0 : v 19 = (.bool true) := HD.out ⟨1, .data⟩ (by simp) rfl
      rw [e0] at q19
      clear q18 q20 q21 q22 q23 q24 q25 q26 q27 q28 q29 q30 q31 q32 q33 q34 q35 q36 sl3 sl4 sl7 ho hi
      go_simp
      exact hK _ _ (Below.refl _ _) rfl
    · obtain rfl := Option.some.inj ho
      have e0 : v 20 = (.bool false) := HD.out ⟨2, .data⟩ (by simp) rfl
      rw [e0] at q20
      clear q18 q19 q21 q22 q23 q24 q25 q26 q27 q28 q29 q30 q31 q32 q33 q34 q35 q36 sl3 sl4 sl7 ho hi
      go_simp
      exact hK _ _ (Below.refl _ _) rfl
    · obtain rfl := Option.some.inj ho
      have eg : v 21 = (.bool false) := HD.out ⟨3, .guard⟩ (by simp) rfl
      rw [eg] at q21
      obtain ⟨k0, k1, k2⟩ := HF.out.ba
      have hP := (rfl : Value.agg #[.int .i64 t1, .int .i64 l1] = .agg #[.int .i64 t1, .int .i64 l1])
      clear q18 q19 q20 q22 q23 q24 q25 q26 q27 q28 q29 q30 q31 q32 q33 q34 q35 q36 sl4 sl7 ho hi
      go_simp
      exact hK _ _ (Below.refl _ _) hP
    · obtain rfl := Option.some.inj ho
      have eg : v 21 = (.bool false) := HD.out ⟨3, .guard⟩ (by simp) rfl
      rw [eg] at q21
      have e0 : v 22 = (.agg #[.int .i64 t1, .int .i64 l1]) := HD.out ⟨4, .data⟩ (by simp) rfl
      rw [e0] at q22
      clear q18 q19 q20 q23 q24 q25 q26 q27 q28 q29 q30 q31 q32 q33 q34 q35 q36 sl3 sl4 sl7 ho hi
      go_simp
      (with_reducible refine (HTa.out _).mono ?_)
      rintro e w2 ⟨u, rfl, hu, hB⟩
      exact hK _ _ hB hu
    · obtain rfl := Option.some.inj ho
      have eg : v 21 = (.bool false) := HD.out ⟨3, .guard⟩ (by simp) rfl
      rw [eg] at q21
      obtain ⟨k0, k1, k2⟩ := HF.out.bp
      have hP := (rfl : Value.agg #[.int .i64 p1, .int .i64 p2] = .agg #[.int .i64 p1, .int .i64 p2])
      clear q18 q19 q20 q22 q23 q24 q25 q26 q27 q28 q29 q30 q31 q32 q33 q34 q35 q36 sl3 sl4 ho hi
      go_simp
      exact hK _ _ (Below.refl _ _) hP
    · obtain rfl := Option.some.inj ho
      have eg : v 21 = (.bool false) := HD.out ⟨3, .guard⟩ (by simp) rfl
      rw [eg] at q21
      have e0 : v 24 = (.agg #[.int .i64 p1, .int .i64 p2]) := HD.out ⟨6, .data⟩ (by simp) rfl
      rw [e0] at q24
      clear q18 q19 q20 q22 q23 q25 q26 q27 q28 q29 q30 q31 q32 q33 q34 q35 q36 sl3 sl4 sl7 ho hi
      go_simp
      (with_reducible refine (HTp.out _).mono ?_)
      rintro e w2 ⟨u, rfl, hu, hB⟩
      exact hK _ _ hB hu
    · obtain rfl := Option.some.inj ho
      have eg : v 21 = (.bool false) := HD.out ⟨3, .guard⟩ (by simp) rfl
      rw [eg] at q21
      have h0 : RFV wx (v 23) x := HD.out ⟨5, .data⟩ (by simp) rfl
      have h1 : RFV wx (v 25) z := HD.out ⟨7, .data⟩ (by simp) rfl
      clear q18 q19 q20 q22 q24 q26 q27 q28 q29 q30 q31 q32 q33 q34 q35 q36 sl3 sl4 sl7 ho hi
      go_simp
      (with_reducible refine (HQ1.out _ _ _ h0 h1).mono ?_)
      rintro e w2 ⟨u, rfl, hu, hB⟩
      exact hK _ _ hB hu
    · obtain rfl := Option.some.inj ho
      have eg : v 21 = (.bool false) := HD.out ⟨3, .guard⟩ (by simp) rfl
      rw [eg] at q21
      have e0 : v 26 = (.int .i64 q1) := HD.out ⟨8, .data⟩ (by simp) rfl
      rw [e0] at q26
      clear q18 q19 q20 q22 q23 q24 q25 q27 q28 q29 q30 q31 q32 q33 q34 q35 q36 sl3 sl4 sl7 ho hi
      go_simp
      exact hK _ _ (Below.refl _ _) rfl
    · obtain rfl := Option.some.inj ho
      have e0 : v 21 = (.bool false) := HD.out ⟨3, .data⟩ (by simp) rfl
      rw [e0] at q21
      have e1 : v 27 = (.bool false) := HD.out ⟨9, .data⟩ (by simp) rfl
      rw [e1] at q27
      clear q18 q19 q20 q22 q23 q24 q25 q26 q28 q29 q30 q31 q32 q33 q34 q35 q36 sl3 sl4 sl7 ho hi
      go_simp
      exact hK _ _ (Below.refl _ _) rfl
    · obtain rfl := Option.some.inj ho
      have e0 : v 28 = (.bool false) := HD.out ⟨10, .data⟩ (by simp) rfl
      rw [e0] at q28
      clear q18 q19 q20 q21 q22 q23 q24 q25 q26 q27 q29 q30 q31 q32 q33 q34 q35 q36 sl3 sl4 sl7 ho hi
      go_simp
      exact hK _ _ (Below.refl _ _) rfl
    · obtain rfl := Option.some.inj ho
      have eg : v 29 = (.bool false) := HD.out ⟨11, .guard⟩ (by simp) rfl
      rw [eg] at q29
      obtain ⟨k0, k1, k2⟩ := HF.out.bp
      have hP := (rfl : Value.agg #[.int .i64 p1, .int .i64 p2] = .agg #[.int .i64 p1, .int .i64 p2])
      clear q18 q19 q20 q21 q22 q23 q24 q25 q26 q27 q28 q30 q31 q32 q33 q34 q35 q36 sl3 sl4 ho hi
      go_simp
      exact hK _ _ (Below.refl _ _) hP
    · obtain rfl := Option.some.inj ho
      have eg : v 29 = (.bool false) := HD.out ⟨11, .guard⟩ (by simp) rfl
      rw [eg] at q29
      have e0 : v 30 = (.agg #[.int .i64 p1, .int .i64 p2]) := HD.out ⟨12, .data⟩ (by simp) rfl
      rw [e0] at q30
      clear q18 q19 q20 q21 q22 q23 q24 q25 q26 q27 q28 q31 q32 q33 q34 q35 q36 sl3 sl4 sl7 ho hi
      go_simp
      (with_reducible refine (HTp.out _).mono ?_)
      rintro e w2 ⟨u, rfl, hu, hB⟩
      exact hK _ _ hB hu
    · obtain rfl := Option.some.inj ho
      have eg : v 29 = (.bool false) := HD.out ⟨11, .guard⟩ (by simp) rfl
      rw [eg] at q29
      obtain ⟨k0, k1, k2⟩ := HF.out.bb
      have hP := (rfl : Value.agg #[.int .i64 t2, .int .i64 l2] = .agg #[.int .i64 t2, .int .i64 l2])
      clear q18 q19 q20 q21 q22 q23 q24 q25 q26 q27 q28 q30 q31 q32 q33 q34 q35 q36 sl3 sl7 ho hi
      go_simp
      exact hK _ _ (Below.refl _ _) hP
    · obtain rfl := Option.some.inj ho
      have eg : v 29 = (.bool false) := HD.out ⟨11, .guard⟩ (by simp) rfl
      rw [eg] at q29
      have e0 : v 32 = (.agg #[.int .i64 t2, .int .i64 l2]) := HD.out ⟨14, .data⟩ (by simp) rfl
      rw [e0] at q32
      clear q18 q19 q20 q21 q22 q23 q24 q25 q26 q27 q28 q30 q31 q33 q34 q35 q36 sl3 sl4 sl7 ho hi
      go_simp
      (with_reducible refine (HTb.out _).mono ?_)
      rintro e w2 ⟨u, rfl, hu, hB⟩
      exact hK _ _ hB hu
    · obtain rfl := Option.some.inj ho
      have eg : v 29 = (.bool false) := HD.out ⟨11, .guard⟩ (by simp) rfl
      rw [eg] at q29
      have h0 : RFV wx (v 31) z := HD.out ⟨13, .data⟩ (by simp) rfl
      have h1 : RFV wx (v 33) y := HD.out ⟨15, .data⟩ (by simp) rfl
      clear q18 q19 q20 q21 q22 q23 q24 q25 q26 q27 q28 q30 q32 q34 q35 q36 sl3 sl4 sl7 ho hi
      go_simp
      (with_reducible refine (HQ2.out _ _ _ h0 h1).mono ?_)
      rintro e w2 ⟨u, rfl, hu, hB⟩
      exact hK _ _ hB hu
    · obtain rfl := Option.some.inj ho
      have eg : v 29 = (.bool false) := HD.out ⟨11, .guard⟩ (by simp) rfl
      rw [eg] at q29
      have e0 : v 34 = (.int .i64 q2) := HD.out ⟨16, .data⟩ (by simp) rfl
      rw [e0] at q34
      clear q18 q19 q20 q21 q22 q23 q24 q25 q26 q27 q28 q30 q31 q32 q33 q35 q36 sl3 sl4 sl7 ho hi
      go_simp
      exact hK _ _ (Below.refl _ _) rfl
    · obtain rfl := Option.some.inj ho
      have e0 : v 29 = (.bool false) := HD.out ⟨11, .data⟩ (by simp) rfl
      rw [e0] at q29
      have e1 : v 35 = (.bool false) := HD.out ⟨17, .data⟩ (by simp) rfl
      rw [e1] at q35
      clear q18 q19 q20 q21 q22 q23 q24 q25 q26 q27 q28 q30 q31 q32 q33 q34 q36 sl3 sl4 sl7 ho hi
      go_simp
      exact hK _ _ (Below.refl _ _) rfl
  · intro v wx hF hall
    have h18 : v 36 = .bool false := hall 18 (by decide)
    have HF := Lib.hid hF
    clear hF hall
    simp only [over, List.setIfInBounds_toArray, List.set_cons_zero, List.set_cons_succ]
    rw [h18]
    generalize v 18 = v18
    generalize v 19 = v19
    generalize v 20 = v20
    generalize v 21 = v21
    generalize v 22 = v22
    generalize v 23 = v23
    generalize v 24 = v24
    generalize v 25 = v25
    generalize v 26 = v26
    generalize v 27 = v27
    generalize v 28 = v28
    generalize v 29 = v29
    generalize v 30 = v30
    generalize v 31 = v31
    generalize v 32 = v32
    generalize v 33 = v33
    generalize v 34 = v34
    generalize v 35 = v35
    clear HVp HTp HQ1 HQ2 hq1 hq2
    go_upto_region 6 with fail
    refine wp_region_flow 19 [37, 38, 39, 40, 41, 42, 43, 44, 45, 46, 47, 48, 49, 50, 51, 52, 53, 54, 55] (fun i => 37 + i) (FL w gp (.int .i64 t1) (.int .i64 l1) (.int .i64 t2) (.int .i64 l2) (.int .i64 t3) (.int .i64 l3) (.int .i64 p1) (.int .i64 p2)) (Spl [.val (.agg #[.int .i64 t3, .int .i64 l3]), .val (.bool true), .val (.bool false), .val (.bool false), .val (.agg #[.int .i64 t1, .int .i64 l1]), .rat x, .val (.agg #[.int .i64 t3, .int .i64 l3]), .rat c, .val (.int .i64 q3), .val (.bool false), .val (.bool false), .val (.bool false), .val (.agg #[.int .i64 t3, .int .i64 l3]), .rat c, .val (.agg #[.int .i64 t2, .int .i64 l2]), .rat y, .val (.int .i64 q4), .val (.bool false), .val (.bool false)]) (by kernel_rfl) (by kernel_rfl) (by kernel_rfl) (by kernel_rfl) (fun i j _ _ h => Nat.add_left_cancel (show 37 + i = 37 + j from h)) (by decide) FL.keep Spl.keep ?_ ?_ ?_
    · exact HF.out.keep _ _ (Below.drew (Below.refl _ _))
    · intro i v wx o T' K ho hF hdep hin hout hK
      have hi : i < 19 := (Array.getElem?_eq_some_iff.1 ho).1
      have q37 := hin 37 (by decide)
      have q38 := hin 38 (by decide)
      have q39 := hin 39 (by decide)
      have q40 := hin 40 (by decide)
      have q41 := hin 41 (by decide)
      have q42 := hin 42 (by decide)
      have q43 := hin 43 (by decide)
      have q44 := hin 44 (by decide)
      have q45 := hin 45 (by decide)
      have q46 := hin 46 (by decide)
      have q47 := hin 47 (by decide)
      have q48 := hin 48 (by decide)
      have q49 := hin 49 (by decide)
      have q50 := hin 50 (by decide)
      have q51 := hin 51 (by decide)
      have q52 := hin 52 (by decide)
      have q53 := hin 53 (by decide)
      have q54 := hin 54 (by decide)
      have q55 := hin 55 (by decide)
      have sl3 : T'[3]? = some (.pointer (some ⟨w.heap.size, 0, none⟩)) := (hout 3 (by decide)).trans rfl
      have sl4 : T'[4]? = some (.pointer (some ⟨w.heap.size + 1, 0, none⟩)) := (hout 4 (by decide)).trans rfl
      have sl5 : T'[5]? = some (.pointer (some ⟨w.heap.size + 1 + 1, 0, none⟩)) := (hout 5 (by decide)).trans rfl
      clear hin hout
      have HF := Lib.hid hF
      have HD := Lib.hid hdep
      clear hF hdep
      rcases (by omega : i = 0 ∨ i = 1 ∨ i = 2 ∨ i = 3 ∨ i = 4 ∨ i = 5 ∨ i = 6 ∨ i = 7 ∨ i = 8 ∨ i = 9 ∨ i = 10 ∨ i = 11 ∨ i = 12 ∨ i = 13 ∨ i = 14 ∨ i = 15 ∨ i = 16 ∨ i = 17 ∨ i = 18) with rfl | rfl | rfl | rfl | rfl | rfl | rfl | rfl | rfl | rfl | rfl | rfl | rfl | rfl | rfl | rfl | rfl | rfl | rfl
      · obtain rfl := Option.some.inj ho
        obtain ⟨k0, k1, k2⟩ := HF.out.bc
        have hP := (rfl : Value.agg #[.int .i64 t3, .int .i64 l3] = .agg #[.int .i64 t3, .int .i64 l3])
        clear q37 q38 q39 q40 q41 q42 q43 q44 q45 q46 q47 q48 q49 q50 q51 q52 q53 q54 q55 sl3 sl4 ho hi
        go_simp
        exact hK _ _ (Below.refl _ _) hP
      · obtain rfl := Option.some.inj ho
        have e0 : v 37 = (.agg #[.int .i64 t3, .int .i64 l3]) := HD.out ⟨0, .data⟩ (by simp) rfl
        rw [e0] at q37
        clear q38 q39 q40 q41 q42 q43 q44 q45 q46 q47 q48 q49 q50 q51 q52 q53 q54 q55 sl3 sl4 sl5 ho hi
        go_simp
        (with_reducible refine (HVc.out _).mono ?_)
        rintro e w2 ⟨u, rfl, hu, hB⟩
        exact hK _ _ hB hu
      · obtain rfl := Option.some.inj ho
        have e0 : v 38 = (.bool true) := HD.out ⟨1, .data⟩ (by simp) rfl
        rw [e0] at q38
        clear q37 q39 q40 q41 q42 q43 q44 q45 q46 q47 q48 q49 q50 q51 q52 q53 q54 q55 sl3 sl4 sl5 ho hi
        go_simp
        exact hK _ _ (Below.refl _ _) rfl
      · obtain rfl := Option.some.inj ho
        have e0 : v 39 = (.bool false) := HD.out ⟨2, .data⟩ (by simp) rfl
        rw [e0] at q39
        clear q37 q38 q40 q41 q42 q43 q44 q45 q46 q47 q48 q49 q50 q51 q52 q53 q54 q55 sl3 sl4 sl5 ho hi
        go_simp
        exact hK _ _ (Below.refl _ _) rfl
      · obtain rfl := Option.some.inj ho
        have eg : v 40 = (.bool false) := HD.out ⟨3, .guard⟩ (by simp) rfl
        rw [eg] at q40
        obtain ⟨k0, k1, k2⟩ := HF.out.ba
        have hP := (rfl : Value.agg #[.int .i64 t1, .int .i64 l1] = .agg #[.int .i64 t1, .int .i64 l1])
        clear q37 q38 q39 q41 q42 q43 q44 q45 q46 q47 q48 q49 q50 q51 q52 q53 q54 q55 sl4 sl5 ho hi
        go_simp
        exact hK _ _ (Below.refl _ _) hP
      · obtain rfl := Option.some.inj ho
        have eg : v 40 = (.bool false) := HD.out ⟨3, .guard⟩ (by simp) rfl
        rw [eg] at q40
        have e0 : v 41 = (.agg #[.int .i64 t1, .int .i64 l1]) := HD.out ⟨4, .data⟩ (by simp) rfl
        rw [e0] at q41
        clear q37 q38 q39 q42 q43 q44 q45 q46 q47 q48 q49 q50 q51 q52 q53 q54 q55 sl3 sl4 sl5 ho hi
        go_simp
        (with_reducible refine (HTa.out _).mono ?_)
        rintro e w2 ⟨u, rfl, hu, hB⟩
        exact hK _ _ hB hu
      · obtain rfl := Option.some.inj ho
        have eg : v 40 = (.bool false) := HD.out ⟨3, .guard⟩ (by simp) rfl
        rw [eg] at q40
        obtain ⟨k0, k1, k2⟩ := HF.out.bc
        have hP := (rfl : Value.agg #[.int .i64 t3, .int .i64 l3] = .agg #[.int .i64 t3, .int .i64 l3])
        clear q37 q38 q39 q41 q42 q43 q44 q45 q46 q47 q48 q49 q50 q51 q52 q53 q54 q55 sl3 sl4 ho hi
        go_simp
        exact hK _ _ (Below.refl _ _) hP
      · obtain rfl := Option.some.inj ho
        have eg : v 40 = (.bool false) := HD.out ⟨3, .guard⟩ (by simp) rfl
        rw [eg] at q40
        have e0 : v 43 = (.agg #[.int .i64 t3, .int .i64 l3]) := HD.out ⟨6, .data⟩ (by simp) rfl
        rw [e0] at q43
        clear q37 q38 q39 q41 q42 q44 q45 q46 q47 q48 q49 q50 q51 q52 q53 q54 q55 sl3 sl4 sl5 ho hi
        go_simp
        (with_reducible refine (HTc.out _).mono ?_)
        rintro e w2 ⟨u, rfl, hu, hB⟩
        exact hK _ _ hB hu
      · obtain rfl := Option.some.inj ho
        have eg : v 40 = (.bool false) := HD.out ⟨3, .guard⟩ (by simp) rfl
        rw [eg] at q40
        have h0 : RFV wx (v 42) x := HD.out ⟨5, .data⟩ (by simp) rfl
        have h1 : RFV wx (v 44) c := HD.out ⟨7, .data⟩ (by simp) rfl
        clear q37 q38 q39 q41 q43 q45 q46 q47 q48 q49 q50 q51 q52 q53 q54 q55 sl3 sl4 sl5 ho hi
        go_simp
        (with_reducible refine (HQ3.out _ _ _ h0 h1).mono ?_)
        rintro e w2 ⟨u, rfl, hu, hB⟩
        exact hK _ _ hB hu
      · obtain rfl := Option.some.inj ho
        have eg : v 40 = (.bool false) := HD.out ⟨3, .guard⟩ (by simp) rfl
        rw [eg] at q40
        have e0 : v 45 = (.int .i64 q3) := HD.out ⟨8, .data⟩ (by simp) rfl
        rw [e0] at q45
        clear q37 q38 q39 q41 q42 q43 q44 q46 q47 q48 q49 q50 q51 q52 q53 q54 q55 sl3 sl4 sl5 ho hi
        go_simp
        exact hK _ _ (Below.refl _ _) rfl
      · obtain rfl := Option.some.inj ho
        have e0 : v 40 = (.bool false) := HD.out ⟨3, .data⟩ (by simp) rfl
        rw [e0] at q40
        have e1 : v 46 = (.bool false) := HD.out ⟨9, .data⟩ (by simp) rfl
        rw [e1] at q46
        clear q37 q38 q39 q41 q42 q43 q44 q45 q47 q48 q49 q50 q51 q52 q53 q54 q55 sl3 sl4 sl5 ho hi
        go_simp
        exact hK _ _ (Below.refl _ _) rfl
      · obtain rfl := Option.some.inj ho
        have e0 : v 47 = (.bool false) := HD.out ⟨10, .data⟩ (by simp) rfl
        rw [e0] at q47
        clear q37 q38 q39 q40 q41 q42 q43 q44 q45 q46 q48 q49 q50 q51 q52 q53 q54 q55 sl3 sl4 sl5 ho hi
        go_simp
        exact hK _ _ (Below.refl _ _) rfl
      · obtain rfl := Option.some.inj ho
        have eg : v 48 = (.bool false) := HD.out ⟨11, .guard⟩ (by simp) rfl
        rw [eg] at q48
        obtain ⟨k0, k1, k2⟩ := HF.out.bc
        have hP := (rfl : Value.agg #[.int .i64 t3, .int .i64 l3] = .agg #[.int .i64 t3, .int .i64 l3])
        clear q37 q38 q39 q40 q41 q42 q43 q44 q45 q46 q47 q49 q50 q51 q52 q53 q54 q55 sl3 sl4 ho hi
        go_simp
        exact hK _ _ (Below.refl _ _) hP
      · obtain rfl := Option.some.inj ho
        have eg : v 48 = (.bool false) := HD.out ⟨11, .guard⟩ (by simp) rfl
        rw [eg] at q48
        have e0 : v 49 = (.agg #[.int .i64 t3, .int .i64 l3]) := HD.out ⟨12, .data⟩ (by simp) rfl
        rw [e0] at q49
        clear q37 q38 q39 q40 q41 q42 q43 q44 q45 q46 q47 q50 q51 q52 q53 q54 q55 sl3 sl4 sl5 ho hi
        go_simp
        (with_reducible refine (HTc.out _).mono ?_)
        rintro e w2 ⟨u, rfl, hu, hB⟩
        exact hK _ _ hB hu
      · obtain rfl := Option.some.inj ho
        have eg : v 48 = (.bool false) := HD.out ⟨11, .guard⟩ (by simp) rfl
        rw [eg] at q48
        obtain ⟨k0, k1, k2⟩ := HF.out.bb
        have hP := (rfl : Value.agg #[.int .i64 t2, .int .i64 l2] = .agg #[.int .i64 t2, .int .i64 l2])
        clear q37 q38 q39 q40 q41 q42 q43 q44 q45 q46 q47 q49 q50 q51 q52 q53 q54 q55 sl3 sl5 ho hi
        go_simp
        exact hK _ _ (Below.refl _ _) hP
      · obtain rfl := Option.some.inj ho
        have eg : v 48 = (.bool false) := HD.out ⟨11, .guard⟩ (by simp) rfl
        rw [eg] at q48
        have e0 : v 51 = (.agg #[.int .i64 t2, .int .i64 l2]) := HD.out ⟨14, .data⟩ (by simp) rfl
        rw [e0] at q51
        clear q37 q38 q39 q40 q41 q42 q43 q44 q45 q46 q47 q49 q50 q52 q53 q54 q55 sl3 sl4 sl5 ho hi
        go_simp
        (with_reducible refine (HTb.out _).mono ?_)
        rintro e w2 ⟨u, rfl, hu, hB⟩
        exact hK _ _ hB hu
      · obtain rfl := Option.some.inj ho
        have eg : v 48 = (.bool false) := HD.out ⟨11, .guard⟩ (by simp) rfl
        rw [eg] at q48
        have h0 : RFV wx (v 50) c := HD.out ⟨13, .data⟩ (by simp) rfl
        have h1 : RFV wx (v 52) y := HD.out ⟨15, .data⟩ (by simp) rfl
        clear q37 q38 q39 q40 q41 q42 q43 q44 q45 q46 q47 q49 q51 q53 q54 q55 sl3 sl4 sl5 ho hi
        go_simp
        (with_reducible refine (HQ4.out _ _ _ h0 h1).mono ?_)
        rintro e w2 ⟨u, rfl, hu, hB⟩
        exact hK _ _ hB hu
      · obtain rfl := Option.some.inj ho
        have eg : v 48 = (.bool false) := HD.out ⟨11, .guard⟩ (by simp) rfl
        rw [eg] at q48
        have e0 : v 53 = (.int .i64 q4) := HD.out ⟨16, .data⟩ (by simp) rfl
        rw [e0] at q53
        clear q37 q38 q39 q40 q41 q42 q43 q44 q45 q46 q47 q49 q50 q51 q52 q54 q55 sl3 sl4 sl5 ho hi
        go_simp
        exact hK _ _ (Below.refl _ _) rfl
      · obtain rfl := Option.some.inj ho
        have e0 : v 48 = (.bool false) := HD.out ⟨11, .data⟩ (by simp) rfl
        rw [e0] at q48
        have e1 : v 54 = (.bool false) := HD.out ⟨17, .data⟩ (by simp) rfl
        rw [e1] at q54
        clear q37 q38 q39 q40 q41 q42 q43 q44 q45 q46 q47 q49 q50 q51 q52 q53 q55 sl3 sl4 sl5 ho hi
        go_simp
        exact hK _ _ (Below.refl _ _) rfl
    · intro v wx hF hall
      have h18 : v 55 = .bool false := hall 18 (by decide)
      have HF := Lib.hid hF
      clear hF hall
      simp only [over, List.setIfInBounds_toArray, List.set_cons_zero, List.set_cons_succ]
      rw [h18]
      generalize v 37 = v37
      generalize v 38 = v38
      generalize v 39 = v39
      generalize v 40 = v40
      generalize v 41 = v41
      generalize v 42 = v42
      generalize v 43 = v43
      generalize v 44 = v44
      generalize v 45 = v45
      generalize v 46 = v46
      generalize v 47 = v47
      generalize v 48 = v48
      generalize v 49 = v49
      generalize v 50 = v50
      generalize v 51 = v51
      generalize v 52 = v52
      generalize v 53 = v53
      generalize v 54 = v54
      clear HVc HTc HQ3 HQ4 hq3 hq4 HTa HTb
      obtain ⟨k0, k1, -⟩ := HF.out.bc
      obtain ⟨j0, j1, -⟩ := HF.out.bp
      go_wp2_with fail
      (with_reducible refine (HA.out _).mono ?_)
      rintro e wa ⟨rfl, hB⟩
      have hb := stepB HF.out.below hB
      clear hB HF
      go_wp2_with fail
      go_ret
      exact ⟨rfl, hb⟩

end Go.Proofs.Ytjoanclnaeephaa

namespace Go.Proofs.Ytjoanclnaeephaa
open Go.RowKit

theorem cmp_num (x y : Rat) : decide (0 < sgnI (x - y).num) = decide (y.num * (x.den : Int) < x.num * (y.den : Int)) := by
  rw [sgnI_pos]
  obtain ⟨N, hN⟩ : ∃ N, x.num * (y.den : Int) - y.num * (x.den : Int) = N := ⟨_, rfl⟩
  have hd : (x.den : Int) * (y.den : Int) ≠ 0 := den_nz2 x y
  have h : qt N ((x.den : Int) * (y.den : Int)) = x - y := by
    have := qt_add x (-y)
    rw [rat_neg_num, rat_neg_den, ← Rat.sub_eq_add_neg] at this
    rw [← this, ← hN, Int.neg_mul, Int.sub_eq_add_neg]
  have e := (qt_parts N ((x.den : Int) * (y.den : Int)) hd).1
  have hneg : ¬ ((x.den : Int) * (y.den : Int) < 0) := by rw [← Int.natCast_mul]; omega
  rw [h, if_neg hneg] at e
  obtain ⟨G, hG⟩ : ∃ G, Nat.gcd N.natAbs ((x.den : Int) * (y.den : Int)).natAbs = G := ⟨_, rfl⟩
  have hG0 : 0 < G := by rw [← hG]; exact Nat.gcd_pos_of_pos_right _ (by omega)
  have hdv : (G : Int) ∣ N := by
    rw [← Int.natAbs_dvd_natAbs, Int.natAbs_natCast, ← hG]
    exact Nat.gcd_dvd_left _ _
  rw [hG] at e
  have em : N = (x - y).num * (G : Int) := by rw [← e]; exact (Int.tdiv_mul_cancel hdv).symm
  have key : 0 < (x - y).num ↔ 0 < N := by
    rw [em]
    constructor
    · intro h; exact Int.mul_pos h (by omega)
    · intro h
      rcases (show (x - y).num ≤ 0 ∨ 0 < (x - y).num by omega) with h1 | h1
      · have := Int.mul_nonpos_of_nonpos_of_nonneg h1 (show 0 ≤ (G : Int) by omega)
        omega
      · exact h1
  refine decide_eq_decide.2 ?_
  rw [key, ← hN]
  omega

theorem ref_valid {t l : Int} {r : Bool} (h : vld t l = r) : Hid (∀ wx, Calls Try.prog 17 #[.agg #[.int .i64 t, .int .i64 l]] wx (RetV (.val (.bool r)) wx)) := fun wx => by
  have := rvalid_any t l wx
  rw [h] at this
  refine this.mono ?_
  rintro e w' ⟨rfl, hB⟩
  exact ⟨_, rfl, rfl, hB⟩
theorem ref_to {x : Rat} (h : vld x.num (x.den : Int) = true) : Hid (∀ wx, Calls Try.prog 18 #[.agg #[.int .i64 x.num, .int .i64 (x.den : Int)]] wx (RetV (.rat x) wx)) := fun wx => rv_to x wx (vld_le h).1 (vld_le h).2
theorem ref_cmp {x y : Rat} (h : vld x.num (x.den : Int) = true) (h' : vld y.num (y.den : Int) = true) : Hid (∀ wx u u', RFV wx u x → RFV wx u' y → Calls Try.prog 19 #[u, u'] wx (RetV (.val (.int .i64 (sgnI (x - y).num))) wx)) := fun wx u u' k1 k2 => by
  obtain ⟨a1, a2⟩ := vld_le h
  obtain ⟨b1, b2⟩ := vld_le h'
  have e3 : Bs ^ 3 = 1237940039285380274899124224 := by decide
  exact rv_compare 3 k1 k2 (by decide) ⟨by omega, by omega⟩ ⟨by omega, by omega⟩

theorem least_any (t1 l1 t2 l2 t3 l3 : Int) (w : World) :
    Calls Try.prog 6 #[.agg #[.int .i64 t1, .int .i64 l1], .agg #[.int .i64 t2, .int .i64 l2], .agg #[.int .i64 t3, .int .i64 l3]] w fun e w' => e = .returned (.bool true) ∧ Below w.heap.size w w' := by
  have HA : Hid (∀ wx, Calls Try.prog 13 #[] wx fun e w' => e = .returned (.bool true) ∧ Below wx.heap.size wx w') := fun wx => awake_any wx
  have H1 : Hid (∀ wx, Calls Try.prog 15 #[.agg #[.int .i64 t1, .int .i64 l1], .agg #[.int .i64 t2, .int .i64 l2]] wx (Rt (btwT t1 l1 t2 l2).1 (btwT t1 l1 t2 l2).2.1 (btwT t1 l1 t2 l2).2.2 wx)) := fun wx => btw_any t1 l1 t2 l2 wx
  have HL := btw_least t1 l1 t2 l2
  generalize (btwT t1 l1 t2 l2).1 = p1 at H1 HL
  generalize (btwT t1 l1 t2 l2).2.1 = p2 at H1 HL
  generalize (btwT t1 l1 t2 l2).2.2 = e1 at H1 HL
  by_cases he : e1 = 0
  · subst he
    obtain ⟨va, vb, vp, h1, h2, h3⟩ := HL rfl
    obtain ⟨x, rfl, rfl, -⟩ := vld_rat va
    obtain ⟨y, rfl, rfl, -⟩ := vld_rat vb
    obtain ⟨z, rfl, rfl, -⟩ := vld_rat vp
    have q1 := cmp_num x z
    rw [decide_eq_false (show ¬ (z.num * (x.den : Int) < x.num * (z.den : Int)) by omega)] at q1
    have q2 := cmp_num z y
    rw [decide_eq_false (show ¬ (y.num * (z.den : Int) < z.num * (y.den : Int)) by omega)] at q2
    cases vc : vld t3 l3 with
    | false =>
      exact least_inv _ _ _ _ t3 l3 _ _ _ _ x y z w q1 q2 H1 HA (ref_valid vp) (ref_to va) (ref_to vb) (ref_to vp) (ref_cmp va vp) (ref_cmp vp vb) (ref_valid vc)
    | true =>
      obtain ⟨c, rfl, rfl, -⟩ := vld_rat vc
      have q3 := cmp_num x c
      have q4 := cmp_num c y
      by_cases g3 : c.num * (x.den : Int) < x.num * (c.den : Int)
      · rw [decide_eq_true g3] at q3
        exact least_low _ _ _ _ _ _ _ _ _ _ _ x y z c w q1 q2 q3 H1 HA (ref_valid vp) (ref_to va) (ref_to vb) (ref_to vp) (ref_cmp va vp) (ref_cmp vp vb) (ref_valid vc) (ref_to vc) (ref_cmp va vc)
      · rw [decide_eq_false g3] at q3
        by_cases g4 : y.num * (c.den : Int) < c.num * (y.den : Int)
        · rw [decide_eq_true g4] at q4
          exact least_high _ _ _ _ _ _ _ _ _ _ _ _ x y z c w q1 q2 q3 q4 H1 HA (ref_valid vp) (ref_to va) (ref_to vb) (ref_to vp) (ref_cmp va vp) (ref_cmp vp vb) (ref_valid vc) (ref_to vc) (ref_cmp va vc) (ref_cmp vc vb)
        · rw [decide_eq_false g4] at q4
          have hcd : 0 < (c.den : Int) := by have := c.den_nz; omega
          obtain ⟨f1, f2⟩ := h3 c.num (c.den : Int) hcd (by omega) (by omega)
          by_cases g5 : (z.den : Int) < (c.den : Int)
          · exact least_more _ _ _ _ _ _ _ _ _ _ _ _ x y z c w q1 q2 q3 q4 (decide_eq_true g5) H1 HA (ref_valid vp) (ref_to va) (ref_to vb) (ref_to vp) (ref_cmp va vp) (ref_cmp vp vb) (ref_valid vc) (ref_to vc) (ref_cmp va vc) (ref_cmp vc vb)
          · obtain ⟨a1, -⟩ := vld_le vc
            obtain ⟨b1, -⟩ := vld_le vp
            exact least_same _ _ _ _ _ _ _ _ _ _ _ _ x y z c w q1 q2 q3 q4 (-c.num) (-z.num) (decide_eq_false g5) (beq_iff_eq.2 (by omega)) (IntWalk.i64_in _ (by omega)) (IntWalk.i64_in _ (by omega)) (decide_eq_true (by omega)) H1 HA (ref_valid vp) (ref_to va) (ref_to vb) (ref_to vp) (ref_cmp va vp) (ref_cmp vp vb) (ref_valid vc) (ref_to vc) (ref_cmp va vc) (ref_cmp vc vb)
  · exact least_err t1 l1 t2 l2 t3 l3 p1 p2 e1 w (bne_iff_ne.2 he) H1 HA

end Go.Proofs.Ytjoanclnaeephaa
