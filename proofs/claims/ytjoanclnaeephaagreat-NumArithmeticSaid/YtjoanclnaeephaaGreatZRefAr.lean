/- Add, Sub, Mul, Div and Cmp of the reference. -/
import Derived.Test.YtjoanclnaeephaaGreatZRefAll
import Derived.Test.YtjoanclnaeephaaGreatZNumC
import Derived.Test.YtjoanclnaeephaaGreatZFlow2
namespace Go.Proofs.YtjoanclnaeephaaGreat
open Go.RowKit

/-- Three boxes of numbers, the last one writable. -/
theorem abox3 (w : World) (t l t' l' : Value) : ∃ X, ((w.alloc (.cells #[t, l] 23)).alloc (.cells #[t', l'] 23)).alloc (.cells #[.int .i64 0, .int .i64 0] 23) = X ∧ Below w.heap.size w X ∧ B2n w.heap.size t l X ∧ B2n (w.heap.size + 1) t' l' X ∧ Wr (w.heap.size + 1 + 1) 23 X :=
  ⟨_, rfl, (((Below.refl _ _).alloc (Nat.le_refl _) _).alloc (by simp) _).alloc (by simp; omega) _, by simp [B2n, go_sem], by simp [B2n, go_sem], Wr.new _ _ _ _ (by simp)⟩
/-- The boxes of two numbers, and one for the result. -/
structure FA3 (w : World) (a b a' b' : Value) (wx : World) : Prop where
  below : Below w.heap.size w wx
  ba : B2n w.heap.size a b wx
  bb : B2n (w.heap.size + 1) a' b' wx
  wc : Wr (w.heap.size + 1 + 1) 23 wx
theorem FA3.keep {w : World} {a b a' b' : Value} (wx wy : World) (h : FA3 w a b a' b' wx) (hb : Below wx.heap.size wx wy) : FA3 w a b a' b' wy :=
  ⟨h.below.trans (hb.mono h.below.size), h.ba.keep hb, h.bb.keep hb, h.wc.keep hb⟩
theorem num_t (K : Nat) {z : Rat} (hK : K ≤ 250000) (hz : z.num.natAbs < Bs ^ K ∧ z.den < Bs ^ K) : Hid (∀ wx u, RFV wx u z → Calls Tryz.prog 20 #[u] wx (RetV (.val (.tuple #[.agg #[.int .i64 (outT z).1, .int .i64 (outT z).2.1], .int .i64 (outT z).2.2])) wx)) := fun wx u k => by
  have := rv_num K k hK hz
  rw [outN_val] at this
  refine this.mono ?_
  rintro e w' ⟨rfl, hB⟩
  exact ⟨_, rfl, rfl, hB⟩
theorem to_t {x : Rat} (h : vld x.num (x.den : Int) = true) : Hid (∀ wx, Calls Tryz.prog 21 #[.agg #[.int .i64 x.num, .int .i64 (x.den : Int)]] wx (RetV (.rat x) wx)) := fun wx => rv_to x wx (vld_le h).1 (vld_le h).2
theorem mul_size {x y : Rat} {K : Nat} (hx : x.num.natAbs < Bs ^ K ∧ x.den < Bs ^ K) (hy : y.num.natAbs < Bs ^ K ∧ y.den < Bs ^ K) : (x * y).num.natAbs < Bs ^ (2 * K) ∧ (x * y).den < Bs ^ (2 * K) := by
  have h := qt_le (x.num * y.num) _ (den_nz2 x y)
  rw [qt_mul] at h
  exact ⟨Nat.lt_of_le_of_lt h.1 (mul_bound hx.1 hy.1), Nat.lt_of_le_of_lt h.2 (mul_bound (den_bound x hx.2) (den_bound y hy.2))⟩
theorem div_size {x y : Rat} {K : Nat} (h0 : y ≠ 0) (hx : x.num.natAbs < Bs ^ K ∧ x.den < Bs ^ K) (hy : y.num.natAbs < Bs ^ K ∧ y.den < Bs ^ K) : (x / y).num.natAbs < Bs ^ (2 * K) ∧ (x / y).den < Bs ^ (2 * K) := by
  have h := qt_le (x.num * (y.den : Int)) ((x.den : Int) * y.num) (Int.mul_ne_zero (by have := x.den_nz; omega) (fun e => h0 (Rat.num_eq_zero.1 e)))
  rw [qt_div] at h
  exact ⟨Nat.lt_of_le_of_lt h.1 (mul_bound hx.1 (den_bound y hy.2)), Nat.lt_of_le_of_lt h.2 (mul_bound (den_bound x hx.2) hy.1)⟩
theorem sub_size {x y : Rat} {K : Nat} (hx : x.num.natAbs < Bs ^ K ∧ x.den < Bs ^ K) (hy : y.num.natAbs < Bs ^ K ∧ y.den < Bs ^ K) : (x - y).num.natAbs < Bs ^ (2 * K + 1) ∧ (x - y).den < Bs ^ (2 * K + 1) := by
  have := add_size (x := x) (y := -y) hx (by rw [rat_neg_num, rat_neg_den, Int.natAbs_neg]; exact hy)
  rw [← Rat.sub_eq_add_neg] at this
  exact this
theorem all_t (t1 l1 t2 l2 : Int) {b : Bool} (hb : (vld t1 l1 && vld t2 l2) = b) : Hid (∀ wx g, B4 g (.int .i64 t1) (.int .i64 l1) (.int .i64 t2) (.int .i64 l2) wx → g < wx.heap.size → Calls Tryz.prog 19 #[.slice (some ⟨g, 0, none⟩) 2 2] wx fun e w' => e = .returned (.bool b) ∧ Below wx.heap.size wx w') := fun wx g h hz => by
  rw [← hb]
  exact rall2 g t1 l1 t2 l2 _ _ wx h hz (Lib.hid fun wx => rvalid_any t1 l1 wx) (Lib.hid fun wx => rvalid_any t2 l2 wx)

set_option maxRecDepth 100000 in
set_option maxHeartbeats 20000000 in
theorem radd_err (t1 l1 t2 l2 : Int) (w : World) (HAll : Hid (∀ wx g, B4 g (.int .i64 t1) (.int .i64 l1) (.int .i64 t2) (.int .i64 l2) wx → g < wx.heap.size → Calls Tryz.prog 19 #[.slice (some ⟨g, 0, none⟩) 2 2] wx fun e w' => e = .returned (.bool false) ∧ Below wx.heap.size wx w')) : Calls Tryz.prog 5 #[.agg #[.int .i64 t1, .int .i64 l1], .agg #[.int .i64 t2, .int .i64 l2]] w (Rt 0 0 1 w) := by
  go_enter Tryz.func5, Tryz.ntmps5
  go_upto_region 1 with fail
  obtain ⟨X, hX, hwX, hba, hbb, hW⟩ := abox3 w (.int .i64 t1) (.int .i64 l1) (.int .i64 t2) (.int .i64 l2)
  rw [hX]
  have HX : Hid (FA3 w (.int .i64 t1) (.int .i64 l1) (.int .i64 t2) (.int .i64 l2) X) := ⟨hwX, hba, hbb, hW⟩
  clear hX hwX hba hbb hW
  obtain ⟨k0, k1, -⟩ := HX.out.ba
  obtain ⟨j0, j1, -⟩ := HX.out.bb
  go_wp2_with fail
  (with_reducible refine (HAll.out _ X.heap.size (B4.new X _ _ _ _ _) (by simp)).mono ?_)
  rintro e w1 ⟨rfl, hB1⟩
  have HX1 := Lib.hid (HX.out.keep _ w1 ((below_alloc X _).trans (hB1.mono (by simp))))
  clear k0 k1 j0 j1 hB1 HX HAll
  obtain ⟨⟨o1, o2, o3, o4⟩, o5, o6, -⟩ := HX1.out.wc
  go_wp2_with fail
  exact bodyPost_ret (v := .tuple #[.agg #[.int .i64 0, .int .i64 0], .int .i64 1]) (by simp [results, Tryz.results5, go_sem, o3, o4]) rfl ⟨rfl, (HX1.out.below.setCell (Nat.le_trans (Nat.le_succ _) (Nat.le_succ _)) _).setCell (Nat.le_trans (Nat.le_succ _) (Nat.le_succ _)) _⟩

set_option maxRecDepth 100000 in
set_option maxHeartbeats 20000000 in
theorem radd_ok (t1 l1 t2 l2 : Int) (p1 p2 er : Int) (x y z : Rat) (w : World) (HAll : Hid (∀ wx g, B4 g (.int .i64 t1) (.int .i64 l1) (.int .i64 t2) (.int .i64 l2) wx → g < wx.heap.size → Calls Tryz.prog 19 #[.slice (some ⟨g, 0, none⟩) 2 2] wx fun e w' => e = .returned (.bool true) ∧ Below wx.heap.size wx w'))
    (HTa : Hid (∀ wx, Calls Tryz.prog 21 #[.agg #[.int .i64 t1, .int .i64 l1]] wx (RetV (.rat x) wx))) (HTb : Hid (∀ wx, Calls Tryz.prog 21 #[.agg #[.int .i64 t2, .int .i64 l2]] wx (RetV (.rat y) wx))) (HOp : Hid (∀ wx u u', RFV wx u x → RFV wx u' y → Calls Tryz.prog 22 #[u, u'] wx (RetV (.rat z) wx))) (HN : Hid (∀ wx u, RFV wx u z → Calls Tryz.prog 20 #[u] wx (RetV (.val (.tuple #[.agg #[.int .i64 p1, .int .i64 p2], .int .i64 er])) wx))) : Calls Tryz.prog 5 #[.agg #[.int .i64 t1, .int .i64 l1], .agg #[.int .i64 t2, .int .i64 l2]] w (Rt p1 p2 er w) := by
  go_enter Tryz.func5, Tryz.ntmps5
  go_upto_region 1 with fail
  obtain ⟨X, hX, hwX, hba, hbb, hW⟩ := abox3 w (.int .i64 t1) (.int .i64 l1) (.int .i64 t2) (.int .i64 l2)
  rw [hX]
  have HX : Hid (FA3 w (.int .i64 t1) (.int .i64 l1) (.int .i64 t2) (.int .i64 l2) X) := ⟨hwX, hba, hbb, hW⟩
  clear hX hwX hba hbb hW
  obtain ⟨k0, k1, -⟩ := HX.out.ba
  obtain ⟨j0, j1, -⟩ := HX.out.bb
  go_wp2_with fail
  (with_reducible refine (HAll.out _ X.heap.size (B4.new X _ _ _ _ _) (by simp)).mono ?_)
  rintro e w1 ⟨rfl, hB1⟩
  have HX1 := Lib.hid (HX.out.keep _ w1 ((below_alloc X _).trans (hB1.mono (by simp))))
  clear k0 k1 j0 j1 hB1 HX HAll
  go_upto_region 3 with fail
  refine wp_region_flow_put 8 5 (.int .i64 er) [12, 13, 14, 15, 16, 17, 18, 19, 5] (fun i => 12 + i) (FA3 w (.int .i64 t1) (.int .i64 l1) (.int .i64 t2) (.int .i64 l2)) (fun wx => B2n (w.heap.size + 1 + 1) (.int .i64 p1) (.int .i64 p2) wx ∧ Below w.heap.size w wx) (fun v wx => v 19 = .int .i64 er ∧ B2n (w.heap.size + 1 + 1) (.int .i64 p1) (.int .i64 p2) wx ∧ Below w.heap.size w wx) (Spl [.val (.agg #[.int .i64 t1, .int .i64 l1]), .rat x, .val (.agg #[.int .i64 t2, .int .i64 l2]), .rat y, .rat z, .val (.tuple #[.agg #[.int .i64 p1, .int .i64 p2], .int .i64 er]), .val (.agg #[.int .i64 p1, .int .i64 p2]), .val (.int .i64 er)]) (by kernel_rfl) (by kernel_rfl) (by kernel_rfl) (by kernel_rfl) (by kernel_rfl) (by kernel_rfl) (by decide) (fun i j _ _ h => Nat.add_left_cancel (show 12 + i = 12 + j from h)) (by decide) FA3.keep Spl.keep ?_ ?_ ?_ ?_ ?_
  · exact HX1.out.keep _ _ (Below.drew (Below.refl _ _))
  · intro i v wx o T' K hi ho hF hdep hin hout hK
    have q12 := hin 12 (by decide)
    have q13 := hin 13 (by decide)
    have q14 := hin 14 (by decide)
    have q15 := hin 15 (by decide)
    have q16 := hin 16 (by decide)
    have q17 := hin 17 (by decide)
    have q18 := hin 18 (by decide)
    have q19 := hin 19 (by decide)
    have sl2 : T'[2]? = some (.pointer (some ⟨w.heap.size, 0, none⟩)) := (hout 2 (by decide)).trans rfl
    have sl3 : T'[3]? = some (.pointer (some ⟨w.heap.size + 1, 0, none⟩)) := (hout 3 (by decide)).trans rfl
    have sl4 : T'[4]? = some (.pointer (some ⟨w.heap.size + 1 + 1, 0, none⟩)) := (hout 4 (by decide)).trans rfl
    clear hin hout
    have HF := Lib.hid hF
    have HD := Lib.hid hdep
    clear hF hdep
    rcases (by omega : i = 0 ∨ i = 1 ∨ i = 2 ∨ i = 3 ∨ i = 4 ∨ i = 5 ∨ i = 6 ∨ i = 7) with rfl | rfl | rfl | rfl | rfl | rfl | rfl | rfl
    · obtain rfl := Option.some.inj ho
      obtain ⟨k0, k1, k2⟩ := HF.out.ba
      have hP := (rfl : Value.agg #[.int .i64 t1, .int .i64 l1] = .agg #[.int .i64 t1, .int .i64 l1])
      clear q12 q13 q14 q15 q16 q17 q18 q19 sl3 sl4 ho hi
      go_simp
      exact hK _ _ (Below.refl _ _) hP
    · obtain rfl := Option.some.inj ho
      have e0 : v 12 = (.agg #[.int .i64 t1, .int .i64 l1]) := HD.out ⟨0, .data⟩ (by simp) rfl
      rw [e0] at q12
      clear q13 q14 q15 q16 q17 q18 q19 sl2 sl3 sl4 ho hi
      go_simp
      (with_reducible refine (HTa.out _).mono ?_)
      rintro e w2 ⟨u, rfl, hu, hB⟩
      exact hK _ _ hB hu
    · obtain rfl := Option.some.inj ho
      obtain ⟨k0, k1, k2⟩ := HF.out.bb
      have hP := (rfl : Value.agg #[.int .i64 t2, .int .i64 l2] = .agg #[.int .i64 t2, .int .i64 l2])
      clear q12 q13 q14 q15 q16 q17 q18 q19 sl2 sl4 ho hi
      go_simp
      exact hK _ _ (Below.refl _ _) hP
    · obtain rfl := Option.some.inj ho
      have e0 : v 14 = (.agg #[.int .i64 t2, .int .i64 l2]) := HD.out ⟨2, .data⟩ (by simp) rfl
      rw [e0] at q14
      clear q12 q13 q15 q16 q17 q18 q19 sl2 sl3 sl4 ho hi
      go_simp
      (with_reducible refine (HTb.out _).mono ?_)
      rintro e w2 ⟨u, rfl, hu, hB⟩
      exact hK _ _ hB hu
    · obtain rfl := Option.some.inj ho
      have h0 : RFV wx (v 13) x := HD.out ⟨1, .data⟩ (by simp) rfl
      have h1 : RFV wx (v 15) y := HD.out ⟨3, .data⟩ (by simp) rfl
      clear q12 q14 q16 q17 q18 q19 sl2 sl3 sl4 ho hi
      go_simp
      (with_reducible refine (HOp.out _ _ _ h0 h1).mono ?_)
      rintro e w2 ⟨u, rfl, hu, hB⟩
      exact hK _ _ hB hu
    · obtain rfl := Option.some.inj ho
      have h0 : RFV wx (v 16) z := HD.out ⟨4, .data⟩ (by simp) rfl
      clear q12 q13 q14 q15 q17 q18 q19 sl2 sl3 sl4 ho hi
      go_simp
      (with_reducible refine (HN.out _ _ h0).mono ?_)
      rintro e w2 ⟨u, rfl, hu, hB⟩
      exact hK _ _ hB hu
    · obtain rfl := Option.some.inj ho
      have e0 : v 17 = (.tuple #[.agg #[.int .i64 p1, .int .i64 p2], .int .i64 er]) := HD.out ⟨5, .data⟩ (by simp) rfl
      rw [e0] at q17
      clear q12 q13 q14 q15 q16 q18 q19 sl2 sl3 sl4 ho hi
      go_simp
      exact hK _ _ (Below.refl _ _) rfl
    · obtain rfl := Option.some.inj ho
      have e0 : v 17 = (.tuple #[.agg #[.int .i64 p1, .int .i64 p2], .int .i64 er]) := HD.out ⟨5, .data⟩ (by simp) rfl
      rw [e0] at q17
      clear q12 q13 q14 q15 q16 q18 q19 sl2 sl3 sl4 ho hi
      go_simp
      exact hK _ _ (Below.refl _ _) rfl
  · intro v wx o T' K ho hF hall hin hout hK
    obtain rfl := Option.some.inj ho
    have sl4 : T'[4]? = some (.pointer (some ⟨w.heap.size + 1 + 1, 0, none⟩)) := (hout 4 (by decide)).trans rfl
    have q18 := hin 18 (by decide)
    have h0 : v 18 = (.agg #[.int .i64 p1, .int .i64 p2]) := hall 6 (by decide)
    have h1 : v 19 = .int .i64 er := hall 7 (by decide)
    clear hin hout hall ho
    have h9 : v 19 = .int .i64 er := h1
    rw [h0] at q18
    have HR : Hid (B2n (w.heap.size + 1 + 1) (.int .i64 p1) (.int .i64 p2) (st2 wx (w.heap.size + 1 + 1) (.int .i64 p1) (.int .i64 p2)) ∧ Below w.heap.size w (st2 wx (w.heap.size + 1 + 1) (.int .i64 p1) (.int .i64 p2))) := ⟨(hF.wc.put _ _).1, st2_below hF.below (Nat.le_trans (Nat.le_succ _) (Nat.le_succ _)) _ _⟩
    obtain ⟨⟨o1, o2, o3, o4⟩, o5, o6, -⟩ := hF.wc
    clear h0 hF
    go_simp
    exact hK _ ⟨h9, HR.out⟩
  · intro v wx o T' K ho hM hin hout hK
    obtain rfl := Option.some.inj ho
    have q19 := hin 19 (by decide)
    rw [hM.1] at q19
    clear hin hout ho
    go_simp
    exact hK _ hM.2
  · intro v wx hV hE
    obtain ⟨⟨k0, k1, -⟩, hB⟩ := hE
    have HB := Lib.hid hB
    clear hB
    simp only [over, List.setIfInBounds_toArray, List.set_cons_zero, List.set_cons_succ]
    rw [hV]
    generalize v 12 = v12
    generalize v 13 = v13
    generalize v 14 = v14
    generalize v 15 = v15
    generalize v 16 = v16
    generalize v 17 = v17
    generalize v 18 = v18
    generalize v 19 = v19
    go_wp2_with fail
    exact bodyPost_ret (v := .tuple #[.agg #[.int .i64 p1, .int .i64 p2], .int .i64 er]) (by simp [results, Tryz.results5, go_sem, k0, k1]) rfl ⟨rfl, HB.out⟩

theorem radd_any (t1 l1 t2 l2 : Int) (w : World) : Calls Tryz.prog 5 #[.agg #[.int .i64 t1, .int .i64 l1], .agg #[.int .i64 t2, .int .i64 l2]] w (Rt (resT (fun x y => x + y) t1 l1 t2 l2).1 (resT (fun x y => x + y) t1 l1 t2 l2).2.1 (resT (fun x y => x + y) t1 l1 t2 l2).2.2 w) := by
  by_cases hv : (vld t1 l1 && vld t2 l2) = true
  · have HA := all_t t1 l1 t2 l2 hv
    obtain ⟨v1, v2⟩ := Bool.and_eq_true_iff.1 hv
    obtain ⟨x, rfl, rfl, -⟩ := vld_rat v1
    obtain ⟨y, rfl, rfl, -⟩ := vld_rat v2
    rw [resT_ok x y v1 v2]
    obtain ⟨a1, a2⟩ := vld_le v1
    obtain ⟨c1, c2⟩ := vld_le v2
    have e3 : Bs ^ 3 = 1237940039285380274899124224 := by decide
    have bx : x.num.natAbs < Bs ^ 3 ∧ x.den < Bs ^ 3 := ⟨by omega, by omega⟩
    have by' : y.num.natAbs < Bs ^ 3 ∧ y.den < Bs ^ 3 := ⟨by omega, by omega⟩
    exact radd_ok _ _ _ _ _ _ _ x y (x + y) w HA (to_t v1) (to_t v2) (Lib.hid fun wx u u' k1 k2 => rv_plus 3 k1 k2 (by decide) bx by') (num_t (2 * 3 + 1) (by decide) (add_size (K := 3) bx by'))
  · have e : (vld t1 l1 && vld t2 l2) = false := by simpa using hv
    rw [resT_bad e]
    exact radd_err t1 l1 t2 l2 w (all_t t1 l1 t2 l2 e)

set_option maxRecDepth 100000 in
set_option maxHeartbeats 20000000 in
theorem rsub_err (t1 l1 t2 l2 : Int) (w : World) (HAll : Hid (∀ wx g, B4 g (.int .i64 t1) (.int .i64 l1) (.int .i64 t2) (.int .i64 l2) wx → g < wx.heap.size → Calls Tryz.prog 19 #[.slice (some ⟨g, 0, none⟩) 2 2] wx fun e w' => e = .returned (.bool false) ∧ Below wx.heap.size wx w')) : Calls Tryz.prog 7 #[.agg #[.int .i64 t1, .int .i64 l1], .agg #[.int .i64 t2, .int .i64 l2]] w (Rt 0 0 1 w) := by
  go_enter Tryz.func7, Tryz.ntmps7
  go_upto_region 1 with fail
  obtain ⟨X, hX, hwX, hba, hbb, hW⟩ := abox3 w (.int .i64 t1) (.int .i64 l1) (.int .i64 t2) (.int .i64 l2)
  rw [hX]
  have HX : Hid (FA3 w (.int .i64 t1) (.int .i64 l1) (.int .i64 t2) (.int .i64 l2) X) := ⟨hwX, hba, hbb, hW⟩
  clear hX hwX hba hbb hW
  obtain ⟨k0, k1, -⟩ := HX.out.ba
  obtain ⟨j0, j1, -⟩ := HX.out.bb
  go_wp2_with fail
  (with_reducible refine (HAll.out _ X.heap.size (B4.new X _ _ _ _ _) (by simp)).mono ?_)
  rintro e w1 ⟨rfl, hB1⟩
  have HX1 := Lib.hid (HX.out.keep _ w1 ((below_alloc X _).trans (hB1.mono (by simp))))
  clear k0 k1 j0 j1 hB1 HX HAll
  obtain ⟨⟨o1, o2, o3, o4⟩, o5, o6, -⟩ := HX1.out.wc
  go_wp2_with fail
  exact bodyPost_ret (v := .tuple #[.agg #[.int .i64 0, .int .i64 0], .int .i64 1]) (by simp [results, Tryz.results7, go_sem, o3, o4]) rfl ⟨rfl, (HX1.out.below.setCell (Nat.le_trans (Nat.le_succ _) (Nat.le_succ _)) _).setCell (Nat.le_trans (Nat.le_succ _) (Nat.le_succ _)) _⟩

set_option maxRecDepth 100000 in
set_option maxHeartbeats 20000000 in
theorem rsub_ok (t1 l1 t2 l2 : Int) (p1 p2 er : Int) (x y z : Rat) (w : World) (HAll : Hid (∀ wx g, B4 g (.int .i64 t1) (.int .i64 l1) (.int .i64 t2) (.int .i64 l2) wx → g < wx.heap.size → Calls Tryz.prog 19 #[.slice (some ⟨g, 0, none⟩) 2 2] wx fun e w' => e = .returned (.bool true) ∧ Below wx.heap.size wx w'))
    (HTa : Hid (∀ wx, Calls Tryz.prog 21 #[.agg #[.int .i64 t1, .int .i64 l1]] wx (RetV (.rat x) wx))) (HTb : Hid (∀ wx, Calls Tryz.prog 21 #[.agg #[.int .i64 t2, .int .i64 l2]] wx (RetV (.rat y) wx))) (HOp : Hid (∀ wx u u', RFV wx u x → RFV wx u' y → Calls Tryz.prog 24 #[u, u'] wx (RetV (.rat z) wx))) (HN : Hid (∀ wx u, RFV wx u z → Calls Tryz.prog 20 #[u] wx (RetV (.val (.tuple #[.agg #[.int .i64 p1, .int .i64 p2], .int .i64 er])) wx))) : Calls Tryz.prog 7 #[.agg #[.int .i64 t1, .int .i64 l1], .agg #[.int .i64 t2, .int .i64 l2]] w (Rt p1 p2 er w) := by
  go_enter Tryz.func7, Tryz.ntmps7
  go_upto_region 1 with fail
  obtain ⟨X, hX, hwX, hba, hbb, hW⟩ := abox3 w (.int .i64 t1) (.int .i64 l1) (.int .i64 t2) (.int .i64 l2)
  rw [hX]
  have HX : Hid (FA3 w (.int .i64 t1) (.int .i64 l1) (.int .i64 t2) (.int .i64 l2) X) := ⟨hwX, hba, hbb, hW⟩
  clear hX hwX hba hbb hW
  obtain ⟨k0, k1, -⟩ := HX.out.ba
  obtain ⟨j0, j1, -⟩ := HX.out.bb
  go_wp2_with fail
  (with_reducible refine (HAll.out _ X.heap.size (B4.new X _ _ _ _ _) (by simp)).mono ?_)
  rintro e w1 ⟨rfl, hB1⟩
  have HX1 := Lib.hid (HX.out.keep _ w1 ((below_alloc X _).trans (hB1.mono (by simp))))
  clear k0 k1 j0 j1 hB1 HX HAll
  go_upto_region 3 with fail
  refine wp_region_flow_put 8 5 (.int .i64 er) [12, 13, 14, 15, 16, 17, 18, 19, 5] (fun i => 12 + i) (FA3 w (.int .i64 t1) (.int .i64 l1) (.int .i64 t2) (.int .i64 l2)) (fun wx => B2n (w.heap.size + 1 + 1) (.int .i64 p1) (.int .i64 p2) wx ∧ Below w.heap.size w wx) (fun v wx => v 19 = .int .i64 er ∧ B2n (w.heap.size + 1 + 1) (.int .i64 p1) (.int .i64 p2) wx ∧ Below w.heap.size w wx) (Spl [.val (.agg #[.int .i64 t1, .int .i64 l1]), .rat x, .val (.agg #[.int .i64 t2, .int .i64 l2]), .rat y, .rat z, .val (.tuple #[.agg #[.int .i64 p1, .int .i64 p2], .int .i64 er]), .val (.agg #[.int .i64 p1, .int .i64 p2]), .val (.int .i64 er)]) (by kernel_rfl) (by kernel_rfl) (by kernel_rfl) (by kernel_rfl) (by kernel_rfl) (by kernel_rfl) (by decide) (fun i j _ _ h => Nat.add_left_cancel (show 12 + i = 12 + j from h)) (by decide) FA3.keep Spl.keep ?_ ?_ ?_ ?_ ?_
  · exact HX1.out.keep _ _ (Below.drew (Below.refl _ _))
  · intro i v wx o T' K hi ho hF hdep hin hout hK
    have q12 := hin 12 (by decide)
    have q13 := hin 13 (by decide)
    have q14 := hin 14 (by decide)
    have q15 := hin 15 (by decide)
    have q16 := hin 16 (by decide)
    have q17 := hin 17 (by decide)
    have q18 := hin 18 (by decide)
    have q19 := hin 19 (by decide)
    have sl2 : T'[2]? = some (.pointer (some ⟨w.heap.size, 0, none⟩)) := (hout 2 (by decide)).trans rfl
    have sl3 : T'[3]? = some (.pointer (some ⟨w.heap.size + 1, 0, none⟩)) := (hout 3 (by decide)).trans rfl
    have sl4 : T'[4]? = some (.pointer (some ⟨w.heap.size + 1 + 1, 0, none⟩)) := (hout 4 (by decide)).trans rfl
    clear hin hout
    have HF := Lib.hid hF
    have HD := Lib.hid hdep
    clear hF hdep
    rcases (by omega : i = 0 ∨ i = 1 ∨ i = 2 ∨ i = 3 ∨ i = 4 ∨ i = 5 ∨ i = 6 ∨ i = 7) with rfl | rfl | rfl | rfl | rfl | rfl | rfl | rfl
    · obtain rfl := Option.some.inj ho
      obtain ⟨k0, k1, k2⟩ := HF.out.ba
      have hP := (rfl : Value.agg #[.int .i64 t1, .int .i64 l1] = .agg #[.int .i64 t1, .int .i64 l1])
      clear q12 q13 q14 q15 q16 q17 q18 q19 sl3 sl4 ho hi
      go_simp
      exact hK _ _ (Below.refl _ _) hP
    · obtain rfl := Option.some.inj ho
      have e0 : v 12 = (.agg #[.int .i64 t1, .int .i64 l1]) := HD.out ⟨0, .data⟩ (by simp) rfl
      rw [e0] at q12
      clear q13 q14 q15 q16 q17 q18 q19 sl2 sl3 sl4 ho hi
      go_simp
      (with_reducible refine (HTa.out _).mono ?_)
      rintro e w2 ⟨u, rfl, hu, hB⟩
      exact hK _ _ hB hu
    · obtain rfl := Option.some.inj ho
      obtain ⟨k0, k1, k2⟩ := HF.out.bb
      have hP := (rfl : Value.agg #[.int .i64 t2, .int .i64 l2] = .agg #[.int .i64 t2, .int .i64 l2])
      clear q12 q13 q14 q15 q16 q17 q18 q19 sl2 sl4 ho hi
      go_simp
      exact hK _ _ (Below.refl _ _) hP
    · obtain rfl := Option.some.inj ho
      have e0 : v 14 = (.agg #[.int .i64 t2, .int .i64 l2]) := HD.out ⟨2, .data⟩ (by simp) rfl
      rw [e0] at q14
      clear q12 q13 q15 q16 q17 q18 q19 sl2 sl3 sl4 ho hi
      go_simp
      (with_reducible refine (HTb.out _).mono ?_)
      rintro e w2 ⟨u, rfl, hu, hB⟩
      exact hK _ _ hB hu
    · obtain rfl := Option.some.inj ho
      have h0 : RFV wx (v 13) x := HD.out ⟨1, .data⟩ (by simp) rfl
      have h1 : RFV wx (v 15) y := HD.out ⟨3, .data⟩ (by simp) rfl
      clear q12 q14 q16 q17 q18 q19 sl2 sl3 sl4 ho hi
      go_simp
      (with_reducible refine (HOp.out _ _ _ h0 h1).mono ?_)
      rintro e w2 ⟨u, rfl, hu, hB⟩
      exact hK _ _ hB hu
    · obtain rfl := Option.some.inj ho
      have h0 : RFV wx (v 16) z := HD.out ⟨4, .data⟩ (by simp) rfl
      clear q12 q13 q14 q15 q17 q18 q19 sl2 sl3 sl4 ho hi
      go_simp
      (with_reducible refine (HN.out _ _ h0).mono ?_)
      rintro e w2 ⟨u, rfl, hu, hB⟩
      exact hK _ _ hB hu
    · obtain rfl := Option.some.inj ho
      have e0 : v 17 = (.tuple #[.agg #[.int .i64 p1, .int .i64 p2], .int .i64 er]) := HD.out ⟨5, .data⟩ (by simp) rfl
      rw [e0] at q17
      clear q12 q13 q14 q15 q16 q18 q19 sl2 sl3 sl4 ho hi
      go_simp
      exact hK _ _ (Below.refl _ _) rfl
    · obtain rfl := Option.some.inj ho
      have e0 : v 17 = (.tuple #[.agg #[.int .i64 p1, .int .i64 p2], .int .i64 er]) := HD.out ⟨5, .data⟩ (by simp) rfl
      rw [e0] at q17
      clear q12 q13 q14 q15 q16 q18 q19 sl2 sl3 sl4 ho hi
      go_simp
      exact hK _ _ (Below.refl _ _) rfl
  · intro v wx o T' K ho hF hall hin hout hK
    obtain rfl := Option.some.inj ho
    have sl4 : T'[4]? = some (.pointer (some ⟨w.heap.size + 1 + 1, 0, none⟩)) := (hout 4 (by decide)).trans rfl
    have q18 := hin 18 (by decide)
    have h0 : v 18 = (.agg #[.int .i64 p1, .int .i64 p2]) := hall 6 (by decide)
    have h1 : v 19 = .int .i64 er := hall 7 (by decide)
    clear hin hout hall ho
    have h9 : v 19 = .int .i64 er := h1
    rw [h0] at q18
    have HR : Hid (B2n (w.heap.size + 1 + 1) (.int .i64 p1) (.int .i64 p2) (st2 wx (w.heap.size + 1 + 1) (.int .i64 p1) (.int .i64 p2)) ∧ Below w.heap.size w (st2 wx (w.heap.size + 1 + 1) (.int .i64 p1) (.int .i64 p2))) := ⟨(hF.wc.put _ _).1, st2_below hF.below (Nat.le_trans (Nat.le_succ _) (Nat.le_succ _)) _ _⟩
    obtain ⟨⟨o1, o2, o3, o4⟩, o5, o6, -⟩ := hF.wc
    clear h0 hF
    go_simp
    exact hK _ ⟨h9, HR.out⟩
  · intro v wx o T' K ho hM hin hout hK
    obtain rfl := Option.some.inj ho
    have q19 := hin 19 (by decide)
    rw [hM.1] at q19
    clear hin hout ho
    go_simp
    exact hK _ hM.2
  · intro v wx hV hE
    obtain ⟨⟨k0, k1, -⟩, hB⟩ := hE
    have HB := Lib.hid hB
    clear hB
    simp only [over, List.setIfInBounds_toArray, List.set_cons_zero, List.set_cons_succ]
    rw [hV]
    generalize v 12 = v12
    generalize v 13 = v13
    generalize v 14 = v14
    generalize v 15 = v15
    generalize v 16 = v16
    generalize v 17 = v17
    generalize v 18 = v18
    generalize v 19 = v19
    go_wp2_with fail
    exact bodyPost_ret (v := .tuple #[.agg #[.int .i64 p1, .int .i64 p2], .int .i64 er]) (by simp [results, Tryz.results7, go_sem, k0, k1]) rfl ⟨rfl, HB.out⟩

theorem rsub_any (t1 l1 t2 l2 : Int) (w : World) : Calls Tryz.prog 7 #[.agg #[.int .i64 t1, .int .i64 l1], .agg #[.int .i64 t2, .int .i64 l2]] w (Rt (resT (fun x y => x - y) t1 l1 t2 l2).1 (resT (fun x y => x - y) t1 l1 t2 l2).2.1 (resT (fun x y => x - y) t1 l1 t2 l2).2.2 w) := by
  by_cases hv : (vld t1 l1 && vld t2 l2) = true
  · have HA := all_t t1 l1 t2 l2 hv
    obtain ⟨v1, v2⟩ := Bool.and_eq_true_iff.1 hv
    obtain ⟨x, rfl, rfl, -⟩ := vld_rat v1
    obtain ⟨y, rfl, rfl, -⟩ := vld_rat v2
    rw [resT_ok x y v1 v2]
    obtain ⟨a1, a2⟩ := vld_le v1
    obtain ⟨c1, c2⟩ := vld_le v2
    have e3 : Bs ^ 3 = 1237940039285380274899124224 := by decide
    have bx : x.num.natAbs < Bs ^ 3 ∧ x.den < Bs ^ 3 := ⟨by omega, by omega⟩
    have by' : y.num.natAbs < Bs ^ 3 ∧ y.den < Bs ^ 3 := ⟨by omega, by omega⟩
    exact rsub_ok _ _ _ _ _ _ _ x y (x - y) w HA (to_t v1) (to_t v2) (Lib.hid fun wx u u' k1 k2 => rv_less 3 k1 k2 (by decide) bx by') (num_t (2 * 3 + 1) (by decide) (sub_size (K := 3) bx by'))
  · have e : (vld t1 l1 && vld t2 l2) = false := by simpa using hv
    rw [resT_bad e]
    exact rsub_err t1 l1 t2 l2 w (all_t t1 l1 t2 l2 e)

set_option maxRecDepth 100000 in
set_option maxHeartbeats 20000000 in
theorem rmul_err (t1 l1 t2 l2 : Int) (w : World) (HAll : Hid (∀ wx g, B4 g (.int .i64 t1) (.int .i64 l1) (.int .i64 t2) (.int .i64 l2) wx → g < wx.heap.size → Calls Tryz.prog 19 #[.slice (some ⟨g, 0, none⟩) 2 2] wx fun e w' => e = .returned (.bool false) ∧ Below wx.heap.size wx w')) : Calls Tryz.prog 9 #[.agg #[.int .i64 t1, .int .i64 l1], .agg #[.int .i64 t2, .int .i64 l2]] w (Rt 0 0 1 w) := by
  go_enter Tryz.func9, Tryz.ntmps9
  go_upto_region 1 with fail
  obtain ⟨X, hX, hwX, hba, hbb, hW⟩ := abox3 w (.int .i64 t1) (.int .i64 l1) (.int .i64 t2) (.int .i64 l2)
  rw [hX]
  have HX : Hid (FA3 w (.int .i64 t1) (.int .i64 l1) (.int .i64 t2) (.int .i64 l2) X) := ⟨hwX, hba, hbb, hW⟩
  clear hX hwX hba hbb hW
  obtain ⟨k0, k1, -⟩ := HX.out.ba
  obtain ⟨j0, j1, -⟩ := HX.out.bb
  go_wp2_with fail
  (with_reducible refine (HAll.out _ X.heap.size (B4.new X _ _ _ _ _) (by simp)).mono ?_)
  rintro e w1 ⟨rfl, hB1⟩
  have HX1 := Lib.hid (HX.out.keep _ w1 ((below_alloc X _).trans (hB1.mono (by simp))))
  clear k0 k1 j0 j1 hB1 HX HAll
  obtain ⟨⟨o1, o2, o3, o4⟩, o5, o6, -⟩ := HX1.out.wc
  go_wp2_with fail
  exact bodyPost_ret (v := .tuple #[.agg #[.int .i64 0, .int .i64 0], .int .i64 1]) (by simp [results, Tryz.results9, go_sem, o3, o4]) rfl ⟨rfl, (HX1.out.below.setCell (Nat.le_trans (Nat.le_succ _) (Nat.le_succ _)) _).setCell (Nat.le_trans (Nat.le_succ _) (Nat.le_succ _)) _⟩

set_option maxRecDepth 100000 in
set_option maxHeartbeats 20000000 in
theorem rmul_ok (t1 l1 t2 l2 : Int) (p1 p2 er : Int) (x y z : Rat) (w : World) (HAll : Hid (∀ wx g, B4 g (.int .i64 t1) (.int .i64 l1) (.int .i64 t2) (.int .i64 l2) wx → g < wx.heap.size → Calls Tryz.prog 19 #[.slice (some ⟨g, 0, none⟩) 2 2] wx fun e w' => e = .returned (.bool true) ∧ Below wx.heap.size wx w'))
    (HTa : Hid (∀ wx, Calls Tryz.prog 21 #[.agg #[.int .i64 t1, .int .i64 l1]] wx (RetV (.rat x) wx))) (HTb : Hid (∀ wx, Calls Tryz.prog 21 #[.agg #[.int .i64 t2, .int .i64 l2]] wx (RetV (.rat y) wx))) (HOp : Hid (∀ wx u u', RFV wx u x → RFV wx u' y → Calls Tryz.prog 26 #[u, u'] wx (RetV (.rat z) wx))) (HN : Hid (∀ wx u, RFV wx u z → Calls Tryz.prog 20 #[u] wx (RetV (.val (.tuple #[.agg #[.int .i64 p1, .int .i64 p2], .int .i64 er])) wx))) : Calls Tryz.prog 9 #[.agg #[.int .i64 t1, .int .i64 l1], .agg #[.int .i64 t2, .int .i64 l2]] w (Rt p1 p2 er w) := by
  go_enter Tryz.func9, Tryz.ntmps9
  go_upto_region 1 with fail
  obtain ⟨X, hX, hwX, hba, hbb, hW⟩ := abox3 w (.int .i64 t1) (.int .i64 l1) (.int .i64 t2) (.int .i64 l2)
  rw [hX]
  have HX : Hid (FA3 w (.int .i64 t1) (.int .i64 l1) (.int .i64 t2) (.int .i64 l2) X) := ⟨hwX, hba, hbb, hW⟩
  clear hX hwX hba hbb hW
  obtain ⟨k0, k1, -⟩ := HX.out.ba
  obtain ⟨j0, j1, -⟩ := HX.out.bb
  go_wp2_with fail
  (with_reducible refine (HAll.out _ X.heap.size (B4.new X _ _ _ _ _) (by simp)).mono ?_)
  rintro e w1 ⟨rfl, hB1⟩
  have HX1 := Lib.hid (HX.out.keep _ w1 ((below_alloc X _).trans (hB1.mono (by simp))))
  clear k0 k1 j0 j1 hB1 HX HAll
  go_upto_region 3 with fail
  refine wp_region_flow_put 8 5 (.int .i64 er) [12, 13, 14, 15, 16, 17, 18, 19, 5] (fun i => 12 + i) (FA3 w (.int .i64 t1) (.int .i64 l1) (.int .i64 t2) (.int .i64 l2)) (fun wx => B2n (w.heap.size + 1 + 1) (.int .i64 p1) (.int .i64 p2) wx ∧ Below w.heap.size w wx) (fun v wx => v 19 = .int .i64 er ∧ B2n (w.heap.size + 1 + 1) (.int .i64 p1) (.int .i64 p2) wx ∧ Below w.heap.size w wx) (Spl [.val (.agg #[.int .i64 t1, .int .i64 l1]), .rat x, .val (.agg #[.int .i64 t2, .int .i64 l2]), .rat y, .rat z, .val (.tuple #[.agg #[.int .i64 p1, .int .i64 p2], .int .i64 er]), .val (.agg #[.int .i64 p1, .int .i64 p2]), .val (.int .i64 er)]) (by kernel_rfl) (by kernel_rfl) (by kernel_rfl) (by kernel_rfl) (by kernel_rfl) (by kernel_rfl) (by decide) (fun i j _ _ h => Nat.add_left_cancel (show 12 + i = 12 + j from h)) (by decide) FA3.keep Spl.keep ?_ ?_ ?_ ?_ ?_
  · exact HX1.out.keep _ _ (Below.drew (Below.refl _ _))
  · intro i v wx o T' K hi ho hF hdep hin hout hK
    have q12 := hin 12 (by decide)
    have q13 := hin 13 (by decide)
    have q14 := hin 14 (by decide)
    have q15 := hin 15 (by decide)
    have q16 := hin 16 (by decide)
    have q17 := hin 17 (by decide)
    have q18 := hin 18 (by decide)
    have q19 := hin 19 (by decide)
    have sl2 : T'[2]? = some (.pointer (some ⟨w.heap.size, 0, none⟩)) := (hout 2 (by decide)).trans rfl
    have sl3 : T'[3]? = some (.pointer (some ⟨w.heap.size + 1, 0, none⟩)) := (hout 3 (by decide)).trans rfl
    have sl4 : T'[4]? = some (.pointer (some ⟨w.heap.size + 1 + 1, 0, none⟩)) := (hout 4 (by decide)).trans rfl
    clear hin hout
    have HF := Lib.hid hF
    have HD := Lib.hid hdep
    clear hF hdep
    rcases (by omega : i = 0 ∨ i = 1 ∨ i = 2 ∨ i = 3 ∨ i = 4 ∨ i = 5 ∨ i = 6 ∨ i = 7) with rfl | rfl | rfl | rfl | rfl | rfl | rfl | rfl
    · obtain rfl := Option.some.inj ho
      obtain ⟨k0, k1, k2⟩ := HF.out.ba
      have hP := (rfl : Value.agg #[.int .i64 t1, .int .i64 l1] = .agg #[.int .i64 t1, .int .i64 l1])
      clear q12 q13 q14 q15 q16 q17 q18 q19 sl3 sl4 ho hi
      go_simp
      exact hK _ _ (Below.refl _ _) hP
    · obtain rfl := Option.some.inj ho
      have e0 : v 12 = (.agg #[.int .i64 t1, .int .i64 l1]) := HD.out ⟨0, .data⟩ (by simp) rfl
      rw [e0] at q12
      clear q13 q14 q15 q16 q17 q18 q19 sl2 sl3 sl4 ho hi
      go_simp
      (with_reducible refine (HTa.out _).mono ?_)
      rintro e w2 ⟨u, rfl, hu, hB⟩
      exact hK _ _ hB hu
    · obtain rfl := Option.some.inj ho
      obtain ⟨k0, k1, k2⟩ := HF.out.bb
      have hP := (rfl : Value.agg #[.int .i64 t2, .int .i64 l2] = .agg #[.int .i64 t2, .int .i64 l2])
      clear q12 q13 q14 q15 q16 q17 q18 q19 sl2 sl4 ho hi
      go_simp
      exact hK _ _ (Below.refl _ _) hP
    · obtain rfl := Option.some.inj ho
      have e0 : v 14 = (.agg #[.int .i64 t2, .int .i64 l2]) := HD.out ⟨2, .data⟩ (by simp) rfl
      rw [e0] at q14
      clear q12 q13 q15 q16 q17 q18 q19 sl2 sl3 sl4 ho hi
      go_simp
      (with_reducible refine (HTb.out _).mono ?_)
      rintro e w2 ⟨u, rfl, hu, hB⟩
      exact hK _ _ hB hu
    · obtain rfl := Option.some.inj ho
      have h0 : RFV wx (v 13) x := HD.out ⟨1, .data⟩ (by simp) rfl
      have h1 : RFV wx (v 15) y := HD.out ⟨3, .data⟩ (by simp) rfl
      clear q12 q14 q16 q17 q18 q19 sl2 sl3 sl4 ho hi
      go_simp
      (with_reducible refine (HOp.out _ _ _ h0 h1).mono ?_)
      rintro e w2 ⟨u, rfl, hu, hB⟩
      exact hK _ _ hB hu
    · obtain rfl := Option.some.inj ho
      have h0 : RFV wx (v 16) z := HD.out ⟨4, .data⟩ (by simp) rfl
      clear q12 q13 q14 q15 q17 q18 q19 sl2 sl3 sl4 ho hi
      go_simp
      (with_reducible refine (HN.out _ _ h0).mono ?_)
      rintro e w2 ⟨u, rfl, hu, hB⟩
      exact hK _ _ hB hu
    · obtain rfl := Option.some.inj ho
      have e0 : v 17 = (.tuple #[.agg #[.int .i64 p1, .int .i64 p2], .int .i64 er]) := HD.out ⟨5, .data⟩ (by simp) rfl
      rw [e0] at q17
      clear q12 q13 q14 q15 q16 q18 q19 sl2 sl3 sl4 ho hi
      go_simp
      exact hK _ _ (Below.refl _ _) rfl
    · obtain rfl := Option.some.inj ho
      have e0 : v 17 = (.tuple #[.agg #[.int .i64 p1, .int .i64 p2], .int .i64 er]) := HD.out ⟨5, .data⟩ (by simp) rfl
      rw [e0] at q17
      clear q12 q13 q14 q15 q16 q18 q19 sl2 sl3 sl4 ho hi
      go_simp
      exact hK _ _ (Below.refl _ _) rfl
  · intro v wx o T' K ho hF hall hin hout hK
    obtain rfl := Option.some.inj ho
    have sl4 : T'[4]? = some (.pointer (some ⟨w.heap.size + 1 + 1, 0, none⟩)) := (hout 4 (by decide)).trans rfl
    have q18 := hin 18 (by decide)
    have h0 : v 18 = (.agg #[.int .i64 p1, .int .i64 p2]) := hall 6 (by decide)
    have h1 : v 19 = .int .i64 er := hall 7 (by decide)
    clear hin hout hall ho
    have h9 : v 19 = .int .i64 er := h1
    rw [h0] at q18
    have HR : Hid (B2n (w.heap.size + 1 + 1) (.int .i64 p1) (.int .i64 p2) (st2 wx (w.heap.size + 1 + 1) (.int .i64 p1) (.int .i64 p2)) ∧ Below w.heap.size w (st2 wx (w.heap.size + 1 + 1) (.int .i64 p1) (.int .i64 p2))) := ⟨(hF.wc.put _ _).1, st2_below hF.below (Nat.le_trans (Nat.le_succ _) (Nat.le_succ _)) _ _⟩
    obtain ⟨⟨o1, o2, o3, o4⟩, o5, o6, -⟩ := hF.wc
    clear h0 hF
    go_simp
    exact hK _ ⟨h9, HR.out⟩
  · intro v wx o T' K ho hM hin hout hK
    obtain rfl := Option.some.inj ho
    have q19 := hin 19 (by decide)
    rw [hM.1] at q19
    clear hin hout ho
    go_simp
    exact hK _ hM.2
  · intro v wx hV hE
    obtain ⟨⟨k0, k1, -⟩, hB⟩ := hE
    have HB := Lib.hid hB
    clear hB
    simp only [over, List.setIfInBounds_toArray, List.set_cons_zero, List.set_cons_succ]
    rw [hV]
    generalize v 12 = v12
    generalize v 13 = v13
    generalize v 14 = v14
    generalize v 15 = v15
    generalize v 16 = v16
    generalize v 17 = v17
    generalize v 18 = v18
    generalize v 19 = v19
    go_wp2_with fail
    exact bodyPost_ret (v := .tuple #[.agg #[.int .i64 p1, .int .i64 p2], .int .i64 er]) (by simp [results, Tryz.results9, go_sem, k0, k1]) rfl ⟨rfl, HB.out⟩

theorem rmul_any (t1 l1 t2 l2 : Int) (w : World) : Calls Tryz.prog 9 #[.agg #[.int .i64 t1, .int .i64 l1], .agg #[.int .i64 t2, .int .i64 l2]] w (Rt (resT (fun x y => x * y) t1 l1 t2 l2).1 (resT (fun x y => x * y) t1 l1 t2 l2).2.1 (resT (fun x y => x * y) t1 l1 t2 l2).2.2 w) := by
  by_cases hv : (vld t1 l1 && vld t2 l2) = true
  · have HA := all_t t1 l1 t2 l2 hv
    obtain ⟨v1, v2⟩ := Bool.and_eq_true_iff.1 hv
    obtain ⟨x, rfl, rfl, -⟩ := vld_rat v1
    obtain ⟨y, rfl, rfl, -⟩ := vld_rat v2
    rw [resT_ok x y v1 v2]
    obtain ⟨a1, a2⟩ := vld_le v1
    obtain ⟨c1, c2⟩ := vld_le v2
    have e3 : Bs ^ 3 = 1237940039285380274899124224 := by decide
    have bx : x.num.natAbs < Bs ^ 3 ∧ x.den < Bs ^ 3 := ⟨by omega, by omega⟩
    have by' : y.num.natAbs < Bs ^ 3 ∧ y.den < Bs ^ 3 := ⟨by omega, by omega⟩
    exact rmul_ok _ _ _ _ _ _ _ x y (x * y) w HA (to_t v1) (to_t v2) (Lib.hid fun wx u u' k1 k2 => rv_times 3 k1 k2 (by decide) bx by') (num_t (2 * 3) (by decide) (mul_size (K := 3) bx by'))
  · have e : (vld t1 l1 && vld t2 l2) = false := by simpa using hv
    rw [resT_bad e]
    exact rmul_err t1 l1 t2 l2 w (all_t t1 l1 t2 l2 e)

set_option maxRecDepth 100000 in
set_option maxHeartbeats 20000000 in
theorem rdiv_err (t1 l1 t2 l2 : Int) (w : World) (HAll : Hid (∀ wx g, B4 g (.int .i64 t1) (.int .i64 l1) (.int .i64 t2) (.int .i64 l2) wx → g < wx.heap.size → Calls Tryz.prog 19 #[.slice (some ⟨g, 0, none⟩) 2 2] wx fun e w' => e = .returned (.bool false) ∧ Below wx.heap.size wx w')) : Calls Tryz.prog 11 #[.agg #[.int .i64 t1, .int .i64 l1], .agg #[.int .i64 t2, .int .i64 l2]] w (Rt 0 0 1 w) := by
  go_enter Tryz.func11, Tryz.ntmps11
  go_upto_region 1 with fail
  obtain ⟨X, hX, hwX, hba, hbb, hW⟩ := abox3 w (.int .i64 t1) (.int .i64 l1) (.int .i64 t2) (.int .i64 l2)
  rw [hX]
  have HX : Hid (FA3 w (.int .i64 t1) (.int .i64 l1) (.int .i64 t2) (.int .i64 l2) X) := ⟨hwX, hba, hbb, hW⟩
  clear hX hwX hba hbb hW
  obtain ⟨k0, k1, -⟩ := HX.out.ba
  obtain ⟨j0, j1, -⟩ := HX.out.bb
  go_wp2_with fail
  (with_reducible refine (HAll.out _ X.heap.size (B4.new X _ _ _ _ _) (by simp)).mono ?_)
  rintro e w1 ⟨rfl, hB1⟩
  have HX1 := Lib.hid (HX.out.keep _ w1 ((below_alloc X _).trans (hB1.mono (by simp))))
  clear k0 k1 j0 j1 hB1 HX HAll
  obtain ⟨⟨o1, o2, o3, o4⟩, o5, o6, -⟩ := HX1.out.wc
  go_wp2_with fail
  exact bodyPost_ret (v := .tuple #[.agg #[.int .i64 0, .int .i64 0], .int .i64 1]) (by simp [results, Tryz.results11, go_sem, o3, o4]) rfl ⟨rfl, (HX1.out.below.setCell (Nat.le_trans (Nat.le_succ _) (Nat.le_succ _)) _).setCell (Nat.le_trans (Nat.le_succ _) (Nat.le_succ _)) _⟩

set_option maxRecDepth 100000 in
set_option maxHeartbeats 20000000 in
theorem rdiv_zero (t1 l1 t2 l2 : Int) (w : World) (hz : (t2 == 0) = true) (HAll : Hid (∀ wx g, B4 g (.int .i64 t1) (.int .i64 l1) (.int .i64 t2) (.int .i64 l2) wx → g < wx.heap.size → Calls Tryz.prog 19 #[.slice (some ⟨g, 0, none⟩) 2 2] wx fun e w' => e = .returned (.bool true) ∧ Below wx.heap.size wx w')) : Calls Tryz.prog 11 #[.agg #[.int .i64 t1, .int .i64 l1], .agg #[.int .i64 t2, .int .i64 l2]] w (Rt 0 0 5 w) := by
  go_enter Tryz.func11, Tryz.ntmps11
  go_upto_region 1 with fail
  obtain ⟨X, hX, hwX, hba, hbb, hW⟩ := abox3 w (.int .i64 t1) (.int .i64 l1) (.int .i64 t2) (.int .i64 l2)
  rw [hX]
  have HX : Hid (FA3 w (.int .i64 t1) (.int .i64 l1) (.int .i64 t2) (.int .i64 l2) X) := ⟨hwX, hba, hbb, hW⟩
  clear hX hwX hba hbb hW
  obtain ⟨k0, k1, -⟩ := HX.out.ba
  obtain ⟨j0, j1, -⟩ := HX.out.bb
  go_wp2_with fail
  (with_reducible refine (HAll.out _ X.heap.size (B4.new X _ _ _ _ _) (by simp)).mono ?_)
  rintro e w1 ⟨rfl, hB1⟩
  have HX1 := Lib.hid (HX.out.keep _ w1 ((below_alloc X _).trans (hB1.mono (by simp))))
  clear k0 k1 j0 j1 hB1 HX HAll
  obtain ⟨⟨o1, o2, o3, o4⟩, o5, o6, -⟩ := HX1.out.wc
  obtain ⟨j0, j1, -⟩ := HX1.out.bb
  go_wp2_with fail
  exact bodyPost_ret (v := .tuple #[.agg #[.int .i64 0, .int .i64 0], .int .i64 5]) (by simp [results, Tryz.results11, go_sem, o3, o4]) rfl ⟨rfl, (HX1.out.below.setCell (Nat.le_trans (Nat.le_succ _) (Nat.le_succ _)) _).setCell (Nat.le_trans (Nat.le_succ _) (Nat.le_succ _)) _⟩

set_option maxRecDepth 100000 in
set_option maxHeartbeats 20000000 in
theorem rdiv_ok (t1 l1 t2 l2 : Int) (p1 p2 er : Int) (x y z : Rat) (w : World) (hz : (t2 == 0) = false) (HAll : Hid (∀ wx g, B4 g (.int .i64 t1) (.int .i64 l1) (.int .i64 t2) (.int .i64 l2) wx → g < wx.heap.size → Calls Tryz.prog 19 #[.slice (some ⟨g, 0, none⟩) 2 2] wx fun e w' => e = .returned (.bool true) ∧ Below wx.heap.size wx w'))
    (HTa : Hid (∀ wx, Calls Tryz.prog 21 #[.agg #[.int .i64 t1, .int .i64 l1]] wx (RetV (.rat x) wx))) (HTb : Hid (∀ wx, Calls Tryz.prog 21 #[.agg #[.int .i64 t2, .int .i64 l2]] wx (RetV (.rat y) wx))) (HOp : Hid (∀ wx u u', RFV wx u x → RFV wx u' y → Calls Tryz.prog 28 #[u, u'] wx (RetV (.rat z) wx))) (HN : Hid (∀ wx u, RFV wx u z → Calls Tryz.prog 20 #[u] wx (RetV (.val (.tuple #[.agg #[.int .i64 p1, .int .i64 p2], .int .i64 er])) wx))) : Calls Tryz.prog 11 #[.agg #[.int .i64 t1, .int .i64 l1], .agg #[.int .i64 t2, .int .i64 l2]] w (Rt p1 p2 er w) := by
  go_enter Tryz.func11, Tryz.ntmps11
  go_upto_region 1 with fail
  obtain ⟨X, hX, hwX, hba, hbb, hW⟩ := abox3 w (.int .i64 t1) (.int .i64 l1) (.int .i64 t2) (.int .i64 l2)
  rw [hX]
  have HX : Hid (FA3 w (.int .i64 t1) (.int .i64 l1) (.int .i64 t2) (.int .i64 l2) X) := ⟨hwX, hba, hbb, hW⟩
  clear hX hwX hba hbb hW
  obtain ⟨k0, k1, -⟩ := HX.out.ba
  obtain ⟨j0, j1, -⟩ := HX.out.bb
  go_wp2_with fail
  (with_reducible refine (HAll.out _ X.heap.size (B4.new X _ _ _ _ _) (by simp)).mono ?_)
  rintro e w1 ⟨rfl, hB1⟩
  have HX1 := Lib.hid (HX.out.keep _ w1 ((below_alloc X _).trans (hB1.mono (by simp))))
  clear k0 k1 j0 j1 hB1 HX HAll
  obtain ⟨j0, j1, -⟩ := HX1.out.bb
  go_upto_region 5 with fail
  clear j0 j1
  refine wp_region_flow_put 8 5 (.int .i64 er) [18, 19, 20, 21, 22, 23, 24, 25, 5] (fun i => 18 + i) (FA3 w (.int .i64 t1) (.int .i64 l1) (.int .i64 t2) (.int .i64 l2)) (fun wx => B2n (w.heap.size + 1 + 1) (.int .i64 p1) (.int .i64 p2) wx ∧ Below w.heap.size w wx) (fun v wx => v 25 = .int .i64 er ∧ B2n (w.heap.size + 1 + 1) (.int .i64 p1) (.int .i64 p2) wx ∧ Below w.heap.size w wx) (Spl [.val (.agg #[.int .i64 t1, .int .i64 l1]), .rat x, .val (.agg #[.int .i64 t2, .int .i64 l2]), .rat y, .rat z, .val (.tuple #[.agg #[.int .i64 p1, .int .i64 p2], .int .i64 er]), .val (.agg #[.int .i64 p1, .int .i64 p2]), .val (.int .i64 er)]) (by kernel_rfl) (by kernel_rfl) (by kernel_rfl) (by kernel_rfl) (by kernel_rfl) (by kernel_rfl) (by decide) (fun i j _ _ h => Nat.add_left_cancel (show 18 + i = 18 + j from h)) (by decide) FA3.keep Spl.keep ?_ ?_ ?_ ?_ ?_
  · exact HX1.out.keep _ _ (Below.drew (Below.refl _ _))
  · intro i v wx o T' K hi ho hF hdep hin hout hK
    have q18 := hin 18 (by decide)
    have q19 := hin 19 (by decide)
    have q20 := hin 20 (by decide)
    have q21 := hin 21 (by decide)
    have q22 := hin 22 (by decide)
    have q23 := hin 23 (by decide)
    have q24 := hin 24 (by decide)
    have q25 := hin 25 (by decide)
    have sl2 : T'[2]? = some (.pointer (some ⟨w.heap.size, 0, none⟩)) := (hout 2 (by decide)).trans rfl
    have sl3 : T'[3]? = some (.pointer (some ⟨w.heap.size + 1, 0, none⟩)) := (hout 3 (by decide)).trans rfl
    have sl4 : T'[4]? = some (.pointer (some ⟨w.heap.size + 1 + 1, 0, none⟩)) := (hout 4 (by decide)).trans rfl
    clear hin hout
    have HF := Lib.hid hF
    have HD := Lib.hid hdep
    clear hF hdep
    rcases (by omega : i = 0 ∨ i = 1 ∨ i = 2 ∨ i = 3 ∨ i = 4 ∨ i = 5 ∨ i = 6 ∨ i = 7) with rfl | rfl | rfl | rfl | rfl | rfl | rfl | rfl
    · obtain rfl := Option.some.inj ho
      obtain ⟨k0, k1, k2⟩ := HF.out.ba
      have hP := (rfl : Value.agg #[.int .i64 t1, .int .i64 l1] = .agg #[.int .i64 t1, .int .i64 l1])
      clear q18 q19 q20 q21 q22 q23 q24 q25 sl3 sl4 ho hi
      go_simp
      exact hK _ _ (Below.refl _ _) hP
    · obtain rfl := Option.some.inj ho
      have e0 : v 18 = (.agg #[.int .i64 t1, .int .i64 l1]) := HD.out ⟨0, .data⟩ (by simp) rfl
      rw [e0] at q18
      clear q19 q20 q21 q22 q23 q24 q25 sl2 sl3 sl4 ho hi
      go_simp
      (with_reducible refine (HTa.out _).mono ?_)
      rintro e w2 ⟨u, rfl, hu, hB⟩
      exact hK _ _ hB hu
    · obtain rfl := Option.some.inj ho
      obtain ⟨k0, k1, k2⟩ := HF.out.bb
      have hP := (rfl : Value.agg #[.int .i64 t2, .int .i64 l2] = .agg #[.int .i64 t2, .int .i64 l2])
      clear q18 q19 q20 q21 q22 q23 q24 q25 sl2 sl4 ho hi
      go_simp
      exact hK _ _ (Below.refl _ _) hP
    · obtain rfl := Option.some.inj ho
      have e0 : v 20 = (.agg #[.int .i64 t2, .int .i64 l2]) := HD.out ⟨2, .data⟩ (by simp) rfl
      rw [e0] at q20
      clear q18 q19 q21 q22 q23 q24 q25 sl2 sl3 sl4 ho hi
      go_simp
      (with_reducible refine (HTb.out _).mono ?_)
      rintro e w2 ⟨u, rfl, hu, hB⟩
      exact hK _ _ hB hu
    · obtain rfl := Option.some.inj ho
      have h0 : RFV wx (v 19) x := HD.out ⟨1, .data⟩ (by simp) rfl
      have h1 : RFV wx (v 21) y := HD.out ⟨3, .data⟩ (by simp) rfl
      clear q18 q20 q22 q23 q24 q25 sl2 sl3 sl4 ho hi
      go_simp
      (with_reducible refine (HOp.out _ _ _ h0 h1).mono ?_)
      rintro e w2 ⟨u, rfl, hu, hB⟩
      exact hK _ _ hB hu
    · obtain rfl := Option.some.inj ho
      have h0 : RFV wx (v 22) z := HD.out ⟨4, .data⟩ (by simp) rfl
      clear q18 q19 q20 q21 q23 q24 q25 sl2 sl3 sl4 ho hi
      go_simp
      (with_reducible refine (HN.out _ _ h0).mono ?_)
      rintro e w2 ⟨u, rfl, hu, hB⟩
      exact hK _ _ hB hu
    · obtain rfl := Option.some.inj ho
      have e0 : v 23 = (.tuple #[.agg #[.int .i64 p1, .int .i64 p2], .int .i64 er]) := HD.out ⟨5, .data⟩ (by simp) rfl
      rw [e0] at q23
      clear q18 q19 q20 q21 q22 q24 q25 sl2 sl3 sl4 ho hi
      go_simp
      exact hK _ _ (Below.refl _ _) rfl
    · obtain rfl := Option.some.inj ho
      have e0 : v 23 = (.tuple #[.agg #[.int .i64 p1, .int .i64 p2], .int .i64 er]) := HD.out ⟨5, .data⟩ (by simp) rfl
      rw [e0] at q23
      clear q18 q19 q20 q21 q22 q24 q25 sl2 sl3 sl4 ho hi
      go_simp
      exact hK _ _ (Below.refl _ _) rfl
  · intro v wx o T' K ho hF hall hin hout hK
    obtain rfl := Option.some.inj ho
    have sl4 : T'[4]? = some (.pointer (some ⟨w.heap.size + 1 + 1, 0, none⟩)) := (hout 4 (by decide)).trans rfl
    have q24 := hin 24 (by decide)
    have h0 : v 24 = (.agg #[.int .i64 p1, .int .i64 p2]) := hall 6 (by decide)
    have h1 : v 25 = .int .i64 er := hall 7 (by decide)
    clear hin hout hall ho
    have h9 : v 25 = .int .i64 er := h1
    rw [h0] at q24
    have HR : Hid (B2n (w.heap.size + 1 + 1) (.int .i64 p1) (.int .i64 p2) (st2 wx (w.heap.size + 1 + 1) (.int .i64 p1) (.int .i64 p2)) ∧ Below w.heap.size w (st2 wx (w.heap.size + 1 + 1) (.int .i64 p1) (.int .i64 p2))) := ⟨(hF.wc.put _ _).1, st2_below hF.below (Nat.le_trans (Nat.le_succ _) (Nat.le_succ _)) _ _⟩
    obtain ⟨⟨o1, o2, o3, o4⟩, o5, o6, -⟩ := hF.wc
    clear h0 hF
    go_simp
    exact hK _ ⟨h9, HR.out⟩
  · intro v wx o T' K ho hM hin hout hK
    obtain rfl := Option.some.inj ho
    have q25 := hin 25 (by decide)
    rw [hM.1] at q25
    clear hin hout ho
    go_simp
    exact hK _ hM.2
  · intro v wx hV hE
    obtain ⟨⟨k0, k1, -⟩, hB⟩ := hE
    have HB := Lib.hid hB
    clear hB
    simp only [over, List.setIfInBounds_toArray, List.set_cons_zero, List.set_cons_succ]
    rw [hV]
    generalize v 18 = v18
    generalize v 19 = v19
    generalize v 20 = v20
    generalize v 21 = v21
    generalize v 22 = v22
    generalize v 23 = v23
    generalize v 24 = v24
    generalize v 25 = v25
    go_wp2_with fail
    exact bodyPost_ret (v := .tuple #[.agg #[.int .i64 p1, .int .i64 p2], .int .i64 er]) (by simp [results, Tryz.results11, go_sem, k0, k1]) rfl ⟨rfl, HB.out⟩

theorem rdiv_any (t1 l1 t2 l2 : Int) (w : World) : Calls Tryz.prog 11 #[.agg #[.int .i64 t1, .int .i64 l1], .agg #[.int .i64 t2, .int .i64 l2]] w (Rt (divT t1 l1 t2 l2).1 (divT t1 l1 t2 l2).2.1 (divT t1 l1 t2 l2).2.2 w) := by
  by_cases hv : (vld t1 l1 && vld t2 l2) = true
  · have HA := all_t t1 l1 t2 l2 hv
    by_cases hz : (t2 == 0) = true
    · have e : divT t1 l1 t2 l2 = (0, 0, 5) := by unfold divT; rw [if_pos hv, if_pos hz]
      rw [e]
      exact rdiv_zero t1 l1 t2 l2 w hz HA
    · have e : divT t1 l1 t2 l2 = outT (fr t1 l1 / fr t2 l2) := by unfold divT; rw [if_pos hv, if_neg hz]
      have hz' : (t2 == 0) = false := by simpa using hz
      rw [e]
      obtain ⟨v1, v2⟩ := Bool.and_eq_true_iff.1 hv
      obtain ⟨x, rfl, rfl, hx⟩ := vld_rat v1
      obtain ⟨y, rfl, rfl, hy⟩ := vld_rat v2
      rw [hx, hy]
      have hy0 : y ≠ 0 := fun e => by rw [e] at hz'; simp at hz'
      obtain ⟨a1, a2⟩ := vld_le v1
      obtain ⟨c1, c2⟩ := vld_le v2
      have e3 : Bs ^ 3 = 1237940039285380274899124224 := by decide
      have bx : x.num.natAbs < Bs ^ 3 ∧ x.den < Bs ^ 3 := ⟨by omega, by omega⟩
      have by' : y.num.natAbs < Bs ^ 3 ∧ y.den < Bs ^ 3 := ⟨by omega, by omega⟩
      exact rdiv_ok _ _ _ _ _ _ _ x y (x / y) w hz' HA (to_t v1) (to_t v2) (Lib.hid fun wx u u' k1 k2 => rv_over 3 k1 k2 (by decide) bx by' hy0) (num_t (2 * 3) (by decide) (div_size (K := 3) hy0 bx by'))
  · have e : (vld t1 l1 && vld t2 l2) = false := by simpa using hv
    have e' : divT t1 l1 t2 l2 = (0, 0, 1) := by unfold divT; rw [if_neg hv]
    rw [e']
    exact rdiv_err t1 l1 t2 l2 w (all_t t1 l1 t2 l2 e)

set_option maxRecDepth 100000 in
set_option maxHeartbeats 20000000 in
theorem rcmpN_err (t1 l1 t2 l2 : Int) (w : World) (HAll : Hid (∀ wx g, B4 g (.int .i64 t1) (.int .i64 l1) (.int .i64 t2) (.int .i64 l2) wx → g < wx.heap.size → Calls Tryz.prog 19 #[.slice (some ⟨g, 0, none⟩) 2 2] wx fun e w' => e = .returned (.bool false) ∧ Below wx.heap.size wx w')) : Calls Tryz.prog 13 #[.agg #[.int .i64 t1, .int .i64 l1], .agg #[.int .i64 t2, .int .i64 l2]] w fun e w' => e = .returned (.tuple #[.int .i64 0, .int .i64 1]) ∧ Below w.heap.size w w' := by
  go_enter Tryz.func13, Tryz.ntmps13
  go_upto_region 1 with fail
  generalize hX : (w.alloc _).alloc _ = X
  have HX : Hid (FN4 w (.int .i64 t1) (.int .i64 l1) (.int .i64 t2) (.int .i64 l2) X) := by
    subst hX
    exact ⟨below_two w _ _, by simp [B2n, go_sem], by simp [B2n, go_sem]⟩
  clear hX
  obtain ⟨k0, k1, -⟩ := HX.out.ba
  obtain ⟨j0, j1, -⟩ := HX.out.bb
  go_wp2_with fail
  (with_reducible refine (HAll.out _ X.heap.size (B4.new X _ _ _ _ _) (by simp)).mono ?_)
  rintro e w1 ⟨rfl, hB1⟩
  have HX1 := Lib.hid (HX.out.keep _ w1 ((below_alloc X _).trans (hB1.mono (by simp))))
  clear k0 k1 j0 j1 hB1 HX HAll
  go_wp2_with fail
  exact bodyPost_ret (v := .tuple #[.int .i64 0, .int .i64 1]) (by simp [results, Tryz.results13, go_sem]) rfl ⟨rfl, HX1.out.below⟩

set_option maxRecDepth 100000 in
set_option maxHeartbeats 20000000 in
theorem rcmpN_ok (t1 l1 t2 l2 : Int) (q : Int) (x y : Rat) (w : World) (HAll : Hid (∀ wx g, B4 g (.int .i64 t1) (.int .i64 l1) (.int .i64 t2) (.int .i64 l2) wx → g < wx.heap.size → Calls Tryz.prog 19 #[.slice (some ⟨g, 0, none⟩) 2 2] wx fun e w' => e = .returned (.bool true) ∧ Below wx.heap.size wx w'))
    (HTa : Hid (∀ wx, Calls Tryz.prog 21 #[.agg #[.int .i64 t1, .int .i64 l1]] wx (RetV (.rat x) wx))) (HTb : Hid (∀ wx, Calls Tryz.prog 21 #[.agg #[.int .i64 t2, .int .i64 l2]] wx (RetV (.rat y) wx))) (HC : Hid (∀ wx u u', RFV wx u x → RFV wx u' y → Calls Tryz.prog 31 #[u, u'] wx (RetV (.val (.int .i64 q)) wx))) : Calls Tryz.prog 13 #[.agg #[.int .i64 t1, .int .i64 l1], .agg #[.int .i64 t2, .int .i64 l2]] w fun e w' => e = .returned (.tuple #[.int .i64 q, .int .i64 0]) ∧ Below w.heap.size w w' := by
  go_enter Tryz.func13, Tryz.ntmps13
  go_upto_region 1 with fail
  generalize hX : (w.alloc _).alloc _ = X
  have HX : Hid (FN4 w (.int .i64 t1) (.int .i64 l1) (.int .i64 t2) (.int .i64 l2) X) := by
    subst hX
    exact ⟨below_two w _ _, by simp [B2n, go_sem], by simp [B2n, go_sem]⟩
  clear hX
  obtain ⟨k0, k1, -⟩ := HX.out.ba
  obtain ⟨j0, j1, -⟩ := HX.out.bb
  go_wp2_with fail
  (with_reducible refine (HAll.out _ X.heap.size (B4.new X _ _ _ _ _) (by simp)).mono ?_)
  rintro e w1 ⟨rfl, hB1⟩
  have HX1 := Lib.hid (HX.out.keep _ w1 ((below_alloc X _).trans (hB1.mono (by simp))))
  clear k0 k1 j0 j1 hB1 HX HAll
  go_upto_region 3 with fail
  refine wp_region_flow 7 [11, 12, 13, 14, 15, 4, 5] (fun i => if i = 5 then 4 else if i = 6 then 5 else 11 + i) (FN4 w (.int .i64 t1) (.int .i64 l1) (.int .i64 t2) (.int .i64 l2)) (Spl [.val (.agg #[.int .i64 t1, .int .i64 l1]), .rat x, .val (.agg #[.int .i64 t2, .int .i64 l2]), .rat y, .val (.int .i64 q), .val (.int .i64 q), .val (.int .i64 0)]) (by kernel_rfl) (by kernel_rfl) (by kernel_rfl) (by kernel_rfl) (fun i j hi hj h => by have h : (if i = 5 then 4 else if i = 6 then 5 else 11 + i) = (if j = 5 then 4 else if j = 6 then 5 else 11 + j) := h; split at h <;> split at h <;> (try split at h) <;> (try split at h) <;> omega) (by decide) FN4.keep Spl.keep ?_ ?_ ?_
  · exact HX1.out.keep _ _ (Below.drew (Below.refl _ _))
  · intro i v wx o T' K ho hF hdep hin hout hK
    have hi : i < 7 := (Array.getElem?_eq_some_iff.1 ho).1
    have q11 := hin 11 (by decide)
    have q12 := hin 12 (by decide)
    have q13 := hin 13 (by decide)
    have q14 := hin 14 (by decide)
    have q15 := hin 15 (by decide)
    have q4 := hin 4 (by decide)
    have q5 := hin 5 (by decide)
    have sl2 : T'[2]? = some (.pointer (some ⟨w.heap.size, 0, none⟩)) := (hout 2 (by decide)).trans rfl
    have sl3 : T'[3]? = some (.pointer (some ⟨w.heap.size + 1, 0, none⟩)) := (hout 3 (by decide)).trans rfl
    clear hin hout
    have HF := Lib.hid hF
    have HD := Lib.hid hdep
    clear hF hdep
    rcases (by omega : i = 0 ∨ i = 1 ∨ i = 2 ∨ i = 3 ∨ i = 4 ∨ i = 5 ∨ i = 6) with rfl | rfl | rfl | rfl | rfl | rfl | rfl
    · obtain rfl := Option.some.inj ho
      obtain ⟨k0, k1, k2⟩ := HF.out.ba
      have hP := (rfl : Value.agg #[.int .i64 t1, .int .i64 l1] = .agg #[.int .i64 t1, .int .i64 l1])
      clear q11 q12 q13 q14 q15 q4 q5 sl3 ho hi
      go_simp
      exact hK _ _ (Below.refl _ _) hP
    · obtain rfl := Option.some.inj ho
      have e0 : v 11 = (.agg #[.int .i64 t1, .int .i64 l1]) := HD.out ⟨0, .data⟩ (by simp) rfl
      rw [e0] at q11
      clear q12 q13 q14 q15 q4 q5 sl2 sl3 ho hi
      go_simp
      (with_reducible refine (HTa.out _).mono ?_)
      rintro e w2 ⟨u, rfl, hu, hB⟩
      exact hK _ _ hB hu
    · obtain rfl := Option.some.inj ho
      obtain ⟨k0, k1, k2⟩ := HF.out.bb
      have hP := (rfl : Value.agg #[.int .i64 t2, .int .i64 l2] = .agg #[.int .i64 t2, .int .i64 l2])
      clear q11 q12 q13 q14 q15 q4 q5 sl2 ho hi
      go_simp
      exact hK _ _ (Below.refl _ _) hP
    · obtain rfl := Option.some.inj ho
      have e0 : v 13 = (.agg #[.int .i64 t2, .int .i64 l2]) := HD.out ⟨2, .data⟩ (by simp) rfl
      rw [e0] at q13
      clear q11 q12 q14 q15 q4 q5 sl2 sl3 ho hi
      go_simp
      (with_reducible refine (HTb.out _).mono ?_)
      rintro e w2 ⟨u, rfl, hu, hB⟩
      exact hK _ _ hB hu
    · obtain rfl := Option.some.inj ho
      have h0 : RFV wx (v 12) x := HD.out ⟨1, .data⟩ (by simp) rfl
      have h1 : RFV wx (v 14) y := HD.out ⟨3, .data⟩ (by simp) rfl
      clear q11 q13 q15 q4 q5 sl2 sl3 ho hi
      go_simp
      (with_reducible refine (HC.out _ _ _ h0 h1).mono ?_)
      rintro e w2 ⟨u, rfl, hu, hB⟩
      exact hK _ _ hB hu
    · obtain rfl := Option.some.inj ho
      have e0 : v 15 = (.int .i64 q) := HD.out ⟨4, .data⟩ (by simp) rfl
      rw [e0] at q15
      clear q11 q12 q13 q14 q4 q5 sl2 sl3 ho hi
      go_simp
      exact hK _ _ (Below.refl _ _) rfl
    · obtain rfl := Option.some.inj ho
      clear q11 q12 q13 q14 q15 q4 q5 sl2 sl3 ho hi
      go_simp
      exact hK _ _ (Below.refl _ _) rfl
  · intro v wx hF hall
    have h4 : v 4 = .int .i64 q := hall 5 (by decide)
    have h5 : v 5 = .int .i64 0 := hall 6 (by decide)
    have HB := Lib.hid hF.below
    clear hF hall
    simp only [over, List.setIfInBounds_toArray, List.set_cons_zero, List.set_cons_succ]
    rw [h4, h5]
    generalize v 11 = v11
    generalize v 12 = v12
    generalize v 13 = v13
    generalize v 14 = v14
    generalize v 15 = v15
    go_wp2_with fail
    exact bodyPost_ret (v := .tuple #[.int .i64 q, .int .i64 0]) (by simp [results, Tryz.results13, go_sem]) rfl ⟨rfl, HB.out⟩

theorem sgnI_mulA (z : Int) (G : Nat) (hG : 0 < G) : sgnI (z * (G : Int)) = sgnI z := by
  unfold sgnI
  rcases Int.lt_trichotomy z 0 with h | h | h
  · have : z * (G : Int) < 0 := Int.mul_neg_of_neg_of_pos h (by omega)
    rw [if_pos h, if_pos this]
  · subst h
    simp
  · have : 0 < z * (G : Int) := Int.mul_pos h (by omega)
    rw [if_neg (by omega), if_neg (by omega), if_neg (by omega), if_neg (by omega)]
theorem sgn_subA (x y : Rat) : sgnI (x - y).num = sgnR x y := by
  unfold sgnR
  obtain ⟨N, hN⟩ : ∃ N, x.num * (y.den : Int) - y.num * (x.den : Int) = N := ⟨_, rfl⟩
  rw [hN]
  have hd : (x.den : Int) * (y.den : Int) ≠ 0 := den_nz2 x y
  have h : qt N ((x.den : Int) * (y.den : Int)) = x - y := by
    have := qt_add x (-y)
    rw [rat_neg_num, rat_neg_den, ← Rat.sub_eq_add_neg] at this
    rw [← this, ← hN, Int.neg_mul, Int.sub_eq_add_neg]
  have e := (qt_parts N ((x.den : Int) * (y.den : Int)) hd).1
  have hneg : ¬ ((x.den : Int) * (y.den : Int) < 0) := by rw [← Int.natCast_mul]; omega
  rw [h, if_neg hneg] at e
  obtain ⟨G, hG⟩ : ∃ G, Nat.gcd N.natAbs ((x.den : Int) * (y.den : Int)).natAbs = G := ⟨_, rfl⟩
  have hG0 : 0 < G := by rw [← hG]; exact Nat.gcd_pos_of_pos_right _ (by omega)
  have hdv : (G : Int) ∣ N := by
    rw [← Int.natAbs_dvd_natAbs, Int.natAbs_natCast, ← hG]
    exact Nat.gcd_dvd_left _ _
  rw [hG] at e
  have em : N = (x - y).num * (G : Int) := by rw [← e]; exact (Int.tdiv_mul_cancel hdv).symm
  rw [em, sgnI_mulA _ _ hG0]
theorem rcmpN_any (t1 l1 t2 l2 : Int) (w : World) : Calls Tryz.prog 13 #[.agg #[.int .i64 t1, .int .i64 l1], .agg #[.int .i64 t2, .int .i64 l2]] w fun e w' => e = .returned (.tuple #[.int .i64 (cmpT t1 l1 t2 l2).1, .int .i64 (cmpT t1 l1 t2 l2).2]) ∧ Below w.heap.size w w' := by
  by_cases hv : (vld t1 l1 && vld t2 l2) = true
  · have HA := all_t t1 l1 t2 l2 hv
    have e : cmpT t1 l1 t2 l2 = (sgnR (fr t1 l1) (fr t2 l2), 0) := if_pos hv
    rw [e]
    obtain ⟨v1, v2⟩ := Bool.and_eq_true_iff.1 hv
    obtain ⟨x, rfl, rfl, hx⟩ := vld_rat v1
    obtain ⟨y, rfl, rfl, hy⟩ := vld_rat v2
    rw [hx, hy, ← sgn_subA]
    obtain ⟨a1, a2⟩ := vld_le v1
    obtain ⟨c1, c2⟩ := vld_le v2
    have e3 : Bs ^ 3 = 1237940039285380274899124224 := by decide
    exact rcmpN_ok _ _ _ _ _ x y w HA (to_t v1) (to_t v2) (Lib.hid fun wx u u' k1 k2 => rv_compare 3 k1 k2 (by decide) ⟨by omega, by omega⟩ ⟨by omega, by omega⟩)
  · have e : (vld t1 l1 && vld t2 l2) = false := by simpa using hv
    have e' : cmpT t1 l1 t2 l2 = (0, 1) := if_neg hv
    rw [e']
    exact rcmpN_err t1 l1 t2 l2 w (all_t t1 l1 t2 l2 e)

end Go.Proofs.YtjoanclnaeephaaGreat
