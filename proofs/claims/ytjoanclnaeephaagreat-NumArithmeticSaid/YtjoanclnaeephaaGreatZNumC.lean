/- num.Cmp. -/
import Derived.Test.YtjoanclnaeephaaGreatZCmpX
namespace Go.Proofs.YtjoanclnaeephaaGreat
open Go.RowKit

/-- The boxes of two numbers. -/
structure FN4 (w : World) (a b a' b' : Value) (wx : World) : Prop where
  below : Below w.heap.size w wx
  ba : B2n w.heap.size a b wx
  bb : B2n (w.heap.size + 1) a' b' wx
theorem FN4.keep {w : World} {a b a' b' : Value} (wx wy : World) (h : FN4 w a b a' b' wx) (hb : Below wx.heap.size wx wy) : FN4 w a b a' b' wy :=
  ⟨h.below.trans (hb.mono h.below.size), h.ba.keep hb, h.bb.keep hb⟩

set_option maxRecDepth 100000 in
set_option maxHeartbeats 20000000 in
theorem ncmp_bad1 (t1 l1 t2 l2 : Int) (w : World) (HV1 : Hid (∀ wx, Calls Tryz.prog 14 #[.agg #[.int .i64 t1, .int .i64 l1]] wx fun e w' => e = .returned (.bool false) ∧ Below wx.heap.size wx w')) : Calls Tryz.prog 12 #[.agg #[.int .i64 t1, .int .i64 l1], .agg #[.int .i64 t2, .int .i64 l2]] w fun e w' => e = .returned (.tuple #[.int .i64 0, .int .i64 1]) ∧ Below w.heap.size w w' := by
  go_enter Tryz.func12, Tryz.ntmps12
  go_upto_region 1 with fail
  generalize hX : (w.alloc _).alloc _ = X
  have HX : Hid (FN4 w (.int .i64 t1) (.int .i64 l1) (.int .i64 t2) (.int .i64 l2) X) := by
    subst hX
    exact ⟨below_two w _ _, by simp [B2n, go_sem], by simp [B2n, go_sem]⟩
  clear hX
  obtain ⟨k0, k1, -⟩ := HX.out.ba
  obtain ⟨j0, j1, -⟩ := HX.out.bb
  go_wp2_with fail
  (with_reducible refine (HV1.out _).mono ?_)
  rintro e w1 ⟨rfl, hB1⟩
  have HX1 := Lib.hid (HX.out.keep _ _ hB1)
  clear k0 k1 j0 j1 hB1 HX
  go_wp2_with fail
  exact bodyPost_ret (v := .tuple #[.int .i64 0, .int .i64 1]) (by simp [results, Tryz.results12, go_sem]) rfl ⟨rfl, HX1.out.below⟩

set_option maxRecDepth 100000 in
set_option maxHeartbeats 20000000 in
theorem ncmp_bad2 (t1 l1 t2 l2 : Int) (w : World) (HV1 : Hid (∀ wx, Calls Tryz.prog 14 #[.agg #[.int .i64 t1, .int .i64 l1]] wx fun e w' => e = .returned (.bool true) ∧ Below wx.heap.size wx w')) (HV2 : Hid (∀ wx, Calls Tryz.prog 14 #[.agg #[.int .i64 t2, .int .i64 l2]] wx fun e w' => e = .returned (.bool false) ∧ Below wx.heap.size wx w')) : Calls Tryz.prog 12 #[.agg #[.int .i64 t1, .int .i64 l1], .agg #[.int .i64 t2, .int .i64 l2]] w fun e w' => e = .returned (.tuple #[.int .i64 0, .int .i64 1]) ∧ Below w.heap.size w w' := by
  go_enter Tryz.func12, Tryz.ntmps12
  go_upto_region 1 with fail
  generalize hX : (w.alloc _).alloc _ = X
  have HX : Hid (FN4 w (.int .i64 t1) (.int .i64 l1) (.int .i64 t2) (.int .i64 l2) X) := by
    subst hX
    exact ⟨below_two w _ _, by simp [B2n, go_sem], by simp [B2n, go_sem]⟩
  clear hX
  obtain ⟨k0, k1, -⟩ := HX.out.ba
  obtain ⟨j0, j1, -⟩ := HX.out.bb
  go_wp2_with fail
  (with_reducible refine (HV1.out _).mono ?_)
  rintro e w1 ⟨rfl, hB1⟩
  have HX1 := Lib.hid (HX.out.keep _ _ hB1)
  clear k0 k1 j0 j1 hB1 HX
  obtain ⟨k0, k1, -⟩ := HX1.out.ba
  obtain ⟨j0, j1, -⟩ := HX1.out.bb
  go_wp2_with fail
  (with_reducible refine (HV2.out _).mono ?_)
  rintro e w2 ⟨rfl, hB2⟩
  have HX2 := Lib.hid (HX1.out.keep _ _ hB2)
  clear k0 k1 j0 j1 hB2 HX1
  go_wp2_with fail
  exact bodyPost_ret (v := .tuple #[.int .i64 0, .int .i64 1]) (by simp [results, Tryz.results12, go_sem]) rfl ⟨rfl, HX2.out.below⟩

set_option maxRecDepth 100000 in
set_option maxHeartbeats 20000000 in
theorem ncmp_ok (t1 l1 t2 l2 q : Int) (x y : Rat) (w : World) (HV1 : Hid (∀ wx, Calls Tryz.prog 14 #[.agg #[.int .i64 t1, .int .i64 l1]] wx fun e w' => e = .returned (.bool true) ∧ Below wx.heap.size wx w')) (HV2 : Hid (∀ wx, Calls Tryz.prog 14 #[.agg #[.int .i64 t2, .int .i64 l2]] wx fun e w' => e = .returned (.bool true) ∧ Below wx.heap.size wx w'))
    (HO1 : Hid (∀ wx, Calls Tryz.prog 29 #[.agg #[.int .i64 t1, .int .i64 l1]] wx (RetW (.prat x) wx))) (HO2 : Hid (∀ wx, Calls Tryz.prog 29 #[.agg #[.int .i64 t2, .int .i64 l2]] wx (RetW (.prat y) wx)))
    (HC : Hid (∀ wx u u', QV wx u x → QV wx u' y → Calls Tryz.prog 30 #[u, u'] wx (RetW (.val (.int .i64 q)) wx))) : Calls Tryz.prog 12 #[.agg #[.int .i64 t1, .int .i64 l1], .agg #[.int .i64 t2, .int .i64 l2]] w fun e w' => e = .returned (.tuple #[.int .i64 q, .int .i64 0]) ∧ Below w.heap.size w w' := by
  go_enter Tryz.func12, Tryz.ntmps12
  go_upto_region 1 with fail
  generalize hX : (w.alloc _).alloc _ = X
  have HX : Hid (FN4 w (.int .i64 t1) (.int .i64 l1) (.int .i64 t2) (.int .i64 l2) X) := by
    subst hX
    exact ⟨below_two w _ _, by simp [B2n, go_sem], by simp [B2n, go_sem]⟩
  clear hX
  obtain ⟨k0, k1, -⟩ := HX.out.ba
  obtain ⟨j0, j1, -⟩ := HX.out.bb
  go_wp2_with fail
  (with_reducible refine (HV1.out _).mono ?_)
  rintro e w1 ⟨rfl, hB1⟩
  have HX1 := Lib.hid (HX.out.keep _ _ hB1)
  clear k0 k1 j0 j1 hB1 HX
  obtain ⟨k0, k1, -⟩ := HX1.out.ba
  obtain ⟨j0, j1, -⟩ := HX1.out.bb
  go_wp2_with fail
  (with_reducible refine (HV2.out _).mono ?_)
  rintro e w2 ⟨rfl, hB2⟩
  have HX2 := Lib.hid (HX1.out.keep _ _ hB2)
  clear k0 k1 j0 j1 hB2 HX1
  go_upto_region 3 with fail
  refine wp_region_flow 7 [14, 15, 16, 17, 18, 4, 5] (fun i => if i = 5 then 4 else if i = 6 then 5 else 14 + i) (FN4 w (.int .i64 t1) (.int .i64 l1) (.int .i64 t2) (.int .i64 l2)) (Sql [.val (.agg #[.int .i64 t1, .int .i64 l1]), .prat x, .val (.agg #[.int .i64 t2, .int .i64 l2]), .prat y, .val (.int .i64 q), .val (.int .i64 q), .val (.int .i64 0)]) (by kernel_rfl) (by kernel_rfl) (by kernel_rfl) (by kernel_rfl) (fun i j hi hj h => by have h : (if i = 5 then 4 else if i = 6 then 5 else 14 + i) = (if j = 5 then 4 else if j = 6 then 5 else 14 + j) := h; split at h <;> split at h <;> (try split at h) <;> (try split at h) <;> omega) (by decide) FN4.keep Sql.keep ?_ ?_ ?_
  · exact HX2.out.keep _ _ (Below.drew (Below.refl _ _))
  · intro i v wx o T' K ho hF hdep hin hout hK
    have hi : i < 7 := (Array.getElem?_eq_some_iff.1 ho).1
    have q14 := hin 14 (by decide)
    have q15 := hin 15 (by decide)
    have q16 := hin 16 (by decide)
    have q17 := hin 17 (by decide)
    have q18 := hin 18 (by decide)
    have q4 := hin 4 (by decide)
    have q5 := hin 5 (by decide)
    have sl2 : T'[2]? = some (.pointer (some ⟨w.heap.size, 0, none⟩)) := (hout 2 (by decide)).trans rfl
    have sl3 : T'[3]? = some (.pointer (some ⟨w.heap.size + 1, 0, none⟩)) := (hout 3 (by decide)).trans rfl
    clear hin hout
    have HF := Lib.hid hF
    have HD := Lib.hid hdep
    clear hF hdep
    rcases (by omega : i = 0 ∨ i = 1 ∨ i = 2 ∨ i = 3 ∨ i = 4 ∨ i = 5 ∨ i = 6) with rfl | rfl | rfl | rfl | rfl | rfl | rfl
    · obtain rfl := Option.some.inj ho
      obtain ⟨k0, k1, k2⟩ := HF.out.ba
      have hP := (rfl : Value.agg #[.int .i64 t1, .int .i64 l1] = .agg #[.int .i64 t1, .int .i64 l1])
      clear q14 q15 q16 q17 q18 q4 q5 sl3 ho hi
      go_simp
      exact hK _ _ (Below.refl _ _) hP
    · obtain rfl := Option.some.inj ho
      have e0 : v 14 = (.agg #[.int .i64 t1, .int .i64 l1]) := HD.out ⟨0, .data⟩ (by simp) rfl
      rw [e0] at q14
      clear q15 q16 q17 q18 q4 q5 sl2 sl3 ho hi
      go_simp
      (with_reducible refine (HO1.out _).mono ?_)
      rintro e w2 ⟨u, rfl, hu, hB⟩
      exact hK _ _ hB hu
    · obtain rfl := Option.some.inj ho
      obtain ⟨k0, k1, k2⟩ := HF.out.bb
      have hP := (rfl : Value.agg #[.int .i64 t2, .int .i64 l2] = .agg #[.int .i64 t2, .int .i64 l2])
      clear q14 q15 q16 q17 q18 q4 q5 sl2 ho hi
      go_simp
      exact hK _ _ (Below.refl _ _) hP
    · obtain rfl := Option.some.inj ho
      have e0 : v 16 = (.agg #[.int .i64 t2, .int .i64 l2]) := HD.out ⟨2, .data⟩ (by simp) rfl
      rw [e0] at q16
      clear q14 q15 q17 q18 q4 q5 sl2 sl3 ho hi
      go_simp
      (with_reducible refine (HO2.out _).mono ?_)
      rintro e w2 ⟨u, rfl, hu, hB⟩
      exact hK _ _ hB hu
    · obtain rfl := Option.some.inj ho
      have h0 : QV wx (v 15) x := HD.out ⟨1, .data⟩ (by simp) rfl
      have h1 : QV wx (v 17) y := HD.out ⟨3, .data⟩ (by simp) rfl
      clear q14 q16 q18 q4 q5 sl2 sl3 ho hi
      go_simp
      (with_reducible refine (HC.out _ _ _ h0 h1).mono ?_)
      rintro e w2 ⟨u, rfl, hu, hB⟩
      exact hK _ _ hB hu
    · obtain rfl := Option.some.inj ho
      have e0 : v 18 = (.int .i64 q) := HD.out ⟨4, .data⟩ (by simp) rfl
      rw [e0] at q18
      clear q14 q15 q16 q17 q4 q5 sl2 sl3 ho hi
      go_simp
      exact hK _ _ (Below.refl _ _) rfl
    · obtain rfl := Option.some.inj ho
      clear q14 q15 q16 q17 q18 q4 q5 sl2 sl3 ho hi
      go_simp
      exact hK _ _ (Below.refl _ _) rfl
  · intro v wx hF hall
    have h4 : v 4 = .int .i64 q := hall 5 (by decide)
    have h5 : v 5 = .int .i64 0 := hall 6 (by decide)
    have HB := Lib.hid hF.below
    clear hF hall
    simp only [over, List.setIfInBounds_toArray, List.set_cons_zero, List.set_cons_succ]
    rw [h4, h5]
    generalize v 14 = v14
    generalize v 15 = v15
    generalize v 16 = v16
    generalize v 17 = v17
    generalize v 18 = v18
    go_wp2_with fail
    exact bodyPost_ret (v := .tuple #[.int .i64 q, .int .i64 0]) (by simp [results, Tryz.results12, go_sem]) rfl ⟨rfl, HB.out⟩

/-- What num.Cmp returns. -/
def cmpT (t1 l1 t2 l2 : Int) : Int × Int := if vld t1 l1 && vld t2 l2 then (sgnR (fr t1 l1) (fr t2 l2), 0) else (0, 1)
theorem ncmp_any (t1 l1 t2 l2 : Int) (w : World) : Calls Tryz.prog 12 #[.agg #[.int .i64 t1, .int .i64 l1], .agg #[.int .i64 t2, .int .i64 l2]] w fun e w' => e = .returned (.tuple #[.int .i64 (cmpT t1 l1 t2 l2).1, .int .i64 (cmpT t1 l1 t2 l2).2]) ∧ Below w.heap.size w w' := by
  have hv1 := fun wx => valid_any t1 l1 wx
  have hv2 := fun wx => valid_any t2 l2 wx
  cases h1 : vld t1 l1 with
  | false =>
    have e : cmpT t1 l1 t2 l2 = (0, 1) := by unfold cmpT; rw [h1]; rfl
    rw [h1] at hv1
    rw [e]
    exact ncmp_bad1 t1 l1 t2 l2 w (Lib.hid hv1)
  | true =>
    rw [h1] at hv1
    cases h2 : vld t2 l2 with
    | false =>
      have e : cmpT t1 l1 t2 l2 = (0, 1) := by unfold cmpT; rw [h1, h2]; rfl
      rw [h2] at hv2
      rw [e]
      exact ncmp_bad2 t1 l1 t2 l2 w (Lib.hid hv1) (Lib.hid hv2)
    | true =>
      rw [h2] at hv2
      have e : cmpT t1 l1 t2 l2 = (sgnR (fr t1 l1) (fr t2 l2), 0) := by unfold cmpT; rw [h1, h2]; rfl
      rw [e]
      obtain ⟨x, rfl, rfl, hx⟩ := vld_rat h1
      obtain ⟨y, rfl, rfl, hy⟩ := vld_rat h2
      rw [hx, hy]
      obtain ⟨a1, a2⟩ := vld_le h1
      obtain ⟨b1, b2⟩ := vld_le h2
      have e3 : W ^ 3 = 79228162514264337593543950336 := by rw [W_eq]
      exact ncmp_ok _ _ _ _ _ x y w (Lib.hid hv1) (Lib.hid hv2) (Lib.hid fun wx => qv_of x wx (by omega) (by omega) (by omega)) (Lib.hid fun wx => qv_of y wx (by omega) (by omega) (by omega))
        (Lib.hid fun wx u u' k1 k2 => qv_cmp k1 k2 ⟨by omega, by omega⟩ ⟨by omega, by omega⟩)

end Go.Proofs.YtjoanclnaeephaaGreat
