/- Fractions of the reference: product, quotient, sum. -/
import Derived.Test.YtmfnpipmbpnfbaaGreatDoorF23

set_option maxRecDepth 100000
set_option maxHeartbeats 40000000
namespace Go.Proofs.YtmfnpipmbpnfbaaGreatDoor
open Go.RowKit
theorem den_bound (x : Rat) {K : Nat} (h : x.den < Bs ^ K) : ((x.den : Int)).natAbs < Bs ^ K := by rw [Int.natAbs_natCast]; exact h
theorem den_nz2 (x y : Rat) : (x.den : Int) * (y.den : Int) ≠ 0 := Int.mul_ne_zero (by have := x.den_nz; omega) (by have := y.den_nz; omega)
theorem mul_bound {a b : Int} {K : Nat} (ha : a.natAbs < Bs ^ K) (hb : b.natAbs < Bs ^ K) : (a * b).natAbs < Bs ^ (2 * K) := by
  rw [Int.natAbs_mul, Nat.two_mul, Nat.pow_add]
  exact Nat.mul_lt_mul'' ha hb
theorem add_bound {a b : Int} {K : Nat} (ha : a.natAbs < Bs ^ K) (hb : b.natAbs < Bs ^ K) : (a + b).natAbs < Bs ^ (K + 1) := by
  have h : (a + b).natAbs ≤ a.natAbs + b.natAbs := Int.natAbs_add_le _ _
  have e : Bs ^ (K + 1) = Bs ^ K * Bs := Nat.pow_succ ..
  have e2 : Bs ^ K * 2 ≤ Bs ^ K * Bs := Nat.mul_le_mul_left _ (by decide)
  omega
theorem add_size {x y : Rat} {K : Nat} (hx : x.num.natAbs < Bs ^ K ∧ x.den < Bs ^ K) (hy : y.num.natAbs < Bs ^ K ∧ y.den < Bs ^ K) : (x + y).num.natAbs < Bs ^ (2 * K + 1) ∧ (x + y).den < Bs ^ (2 * K + 1) := by
  have hd := den_bound x hx.2
  have hd' := den_bound y hy.2
  have h := qt_le (x.num * (y.den : Int) + y.num * (x.den : Int)) _ (den_nz2 x y)
  rw [qt_add] at h
  exact ⟨Nat.lt_of_le_of_lt h.1 (add_bound (mul_bound hx.1 hd') (mul_bound hy.1 hd)), Nat.lt_of_le_of_lt h.2 (Nat.lt_of_lt_of_le (mul_bound hd hd') (Nat.pow_le_pow_right (by decide) (by omega)))⟩
theorem rv_plus (K : Nat) {u u' : Value} {x y : Rat} {w : World} (h : RFV w u x) (h' : RFV w u' y) (hK : 2 * K + 1 ≤ 250000) (hx : x.num.natAbs < Bs ^ K ∧ x.den < Bs ^ K) (hy : y.num.natAbs < Bs ^ K ∧ y.den < Bs ^ K) : Calls Tryz.prog 97 #[u, u'] w (RetV (.rat (x + y)) w) := by
  obtain ⟨s1, n1, A1, m1, c1, s2, n2, A2, m2, c2, rfl, r1, r2⟩ := h
  have R1 := Lib.hid r1
  have R2 := Lib.hid r2
  obtain ⟨s3, n3, A3, m3, c3, s4, n4, A4, m4, c4, rfl, r3, r4⟩ := h'
  have R3 := Lib.hid r3
  have R4 := Lib.hid r4
  clear r3 r4
  clear r1 r2
  have hd := den_bound x hx.2
  have hd' := den_bound y hy.2
  have HT1 : Hid (∀ wx u u', IV wx u x.num → IV wx u' (y.den : Int) → Calls Tryz.prog 106 #[u, u'] wx (RetV (.int (x.num * (y.den : Int))) wx)) := fun wx u u' k1 k2 => iv_times K k1 k2 (by omega) hx.1 hd'
  have HT2 : Hid (∀ wx u u', IV wx u y.num → IV wx u' (x.den : Int) → Calls Tryz.prog 106 #[u, u'] wx (RetV (.int (y.num * (x.den : Int))) wx)) := fun wx u u' k1 k2 => iv_times K k1 k2 (by omega) hy.1 hd
  have HP : Hid (∀ wx u u', IV wx u (x.num * (y.den : Int)) → IV wx u' (y.num * (x.den : Int)) → Calls Tryz.prog 130 #[u, u'] wx (RetV (.int (x.num * (y.den : Int) + y.num * (x.den : Int))) wx)) := fun wx u u' k1 k2 => iv_plus (2 * K) k1 k2 (by omega) (mul_bound hx.1 hd') (mul_bound hy.1 hd)
  have HT3 : Hid (∀ wx u u', IV wx u (x.den : Int) → IV wx u' (y.den : Int) → Calls Tryz.prog 106 #[u, u'] wx (RetV (.int ((x.den : Int) * (y.den : Int))) wx)) := fun wx u u' k1 k2 => iv_times K k1 k2 (by omega) hd hd'
  have HMk : Hid (∀ wx u u', IV wx u (x.num * (y.den : Int) + y.num * (x.den : Int)) → IV wx u' ((x.den : Int) * (y.den : Int)) → Calls Tryz.prog 129 #[u, u'] wx (RetV (.rat (x + y)) wx)) := fun wx u u' k1 k2 => by
    have := iv_make (2 * K + 1) k1 k2 hK (add_bound (mul_bound hx.1 hd') (mul_bound hy.1 hd)) (Nat.lt_of_lt_of_le (mul_bound hd hd') (Nat.pow_le_pow_right (by decide) (by omega))) (den_nz2 x y)
    rw [qt_add] at this
    exact this
  clear hd hd'
  clear hK hx hy
  generalize x + y = z at HMk ⊢
  generalize x.num * (y.den : Int) + y.num * (x.den : Int) = t3 at HP HMk
  generalize x.num * (y.den : Int) = t1 at HT1 HP
  generalize y.num * (x.den : Int) = t2 at HT2 HP
  generalize (x.den : Int) * (y.den : Int) = t4 at HT3 HMk
  generalize x.num = p1 at R1 HT1
  generalize y.num = p2 at R3 HT2
  generalize (x.den : Int) = q1 at R2 HT2 HT3
  generalize (y.den : Int) = q2 at R4 HT1 HT3
  go_enter Tryz.func97, Tryz.ntmps97
  go_upto_region 1 with fail
  generalize hX : ((w.alloc _).alloc _).alloc _ = X
  have HX : Hid (F2 w (.int .i64 s1) (.bool n1) (.slice A1 m1 c1) (.int .i64 s2) (.bool n2) (.slice A2 m2 c2) (.int .i64 s3) (.bool n3) (.slice A3 m3 c3) (.int .i64 s4) (.bool n4) (.slice A4 m4 c4) X) := by
    subst hX
    exact F2.new w _ _ _ _ _ _ _ _ _ _ _ _ _ _ _ _ _ _
  clear hX
  refine wp_region_flow_store 17 [5, 6, 7, 8, 9, 10, 11, 12, 13, 14, 15, 16, 17, 18, 19, 20, 21] (fun i => 5 + i) (F2 w (.int .i64 s1) (.bool n1) (.slice A1 m1 c1) (.int .i64 s2) (.bool n2) (.slice A2 m2 c2) (.int .i64 s3) (.bool n3) (.slice A3 m3 c3) (.int .i64 s4) (.bool n4) (.slice A4 m4 c4)) (EndR w (w.heap.size + 1 + 1) z) (Spl [.val (.pointer (some ⟨w.heap.size, 0, none⟩)), .int p1, .val (.pointer (some ⟨w.heap.size + 1, 3, none⟩)), .int q2, .int t1, .val (.pointer (some ⟨w.heap.size + 1, 0, none⟩)), .int p2, .val (.pointer (some ⟨w.heap.size, 3, none⟩)), .int q1, .int t2, .int t3, .val (.pointer (some ⟨w.heap.size, 3, none⟩)), .int q1, .val (.pointer (some ⟨w.heap.size + 1, 3, none⟩)), .int q2, .int t4, .rat z]) (by kernel_rfl) (by kernel_rfl) (by kernel_rfl) (by kernel_rfl) (by kernel_rfl) (fun i j _ _ h => Nat.add_left_cancel (show 5 + i = 5 + j from h)) (by decide) F2.keep Spl.keep ?_ ?_ ?_ ?_
  · exact HX.out.keep _ _ (Below.drew (Below.refl _ _))
  · intro i v wx o T' K hi ho hF hdep hin hout hK
    have HF := Lib.hid hF
    have HD := Lib.hid hdep
    clear hF hdep
    rcases (by omega : i = 0 ∨ i = 1 ∨ i = 2 ∨ i = 3 ∨ i = 4 ∨ i = 5 ∨ i = 6 ∨ i = 7 ∨ i = 8 ∨ i = 9 ∨ i = 10 ∨ i = 11 ∨ i = 12 ∨ i = 13 ∨ i = 14 ∨ i = 15 ∨ i = 16) with rfl | rfl | rfl | rfl | rfl | rfl | rfl | rfl | rfl | rfl | rfl | rfl | rfl | rfl | rfl | rfl | rfl
    · obtain rfl := Option.some.inj ho
      have sl2 : T'[2]? = some (.pointer (some ⟨w.heap.size, 0, none⟩)) := (hout 2 (by decide)).trans rfl
      clear hin hout ho hi
      go_simp
      exact hK _ _ (Below.refl _ _) rfl
    · obtain rfl := Option.some.inj ho
      have q5 := hin 5 (by decide)
      have e1 : v 5 = (.pointer (some ⟨w.heap.size, 0, none⟩)) := HD.out ⟨0, .data⟩ (by simp) rfl
      rw [e1] at q5
      obtain ⟨k0, k1, k2, k3, k4, k5, k6⟩ := HF.out.ba
      have hP := (⟨s1, n1, A1, m1, c1, rfl, R1.out.keep HF.out.below⟩ : IV wx (.agg #[.int .i64 s1, .bool n1, .slice A1 m1 c1]) p1)
      clear hin hout ho hi
      go_simp
      exact hK _ _ (Below.refl _ _) hP
    · obtain rfl := Option.some.inj ho
      have sl3 : T'[3]? = some (.pointer (some ⟨w.heap.size + 1, 0, none⟩)) := (hout 3 (by decide)).trans rfl
      clear hin hout ho hi
      go_simp
      exact hK _ _ (Below.refl _ _) rfl
    · obtain rfl := Option.some.inj ho
      have q7 := hin 7 (by decide)
      have e1 : v 7 = (.pointer (some ⟨w.heap.size + 1, 3, none⟩)) := HD.out ⟨2, .data⟩ (by simp) rfl
      rw [e1] at q7
      obtain ⟨k0, k1, k2, k3, k4, k5, k6⟩ := HF.out.bb
      have hP := (⟨s4, n4, A4, m4, c4, rfl, R4.out.keep HF.out.below⟩ : IV wx (.agg #[.int .i64 s4, .bool n4, .slice A4 m4 c4]) q2)
      clear hin hout ho hi
      go_simp
      exact hK _ _ (Below.refl _ _) hP
    · obtain rfl := Option.some.inj ho
      have q6 := hin 6 (by decide)
      have q8 := hin 8 (by decide)
      have h0 : IV wx (v 6) p1 := HD.out ⟨1, .data⟩ (by simp) rfl
      have h1 : IV wx (v 8) q2 := HD.out ⟨3, .data⟩ (by simp) rfl
      clear hin hout ho hi
      go_simp
      (with_reducible refine (HT1.out _ _ _ h0 h1).mono ?_)
      rintro e w2 ⟨u, rfl, hu, hB⟩
      exact hK _ _ hB hu
    · obtain rfl := Option.some.inj ho
      have sl3 : T'[3]? = some (.pointer (some ⟨w.heap.size + 1, 0, none⟩)) := (hout 3 (by decide)).trans rfl
      clear hin hout ho hi
      go_simp
      exact hK _ _ (Below.refl _ _) rfl
    · obtain rfl := Option.some.inj ho
      have q10 := hin 10 (by decide)
      have e1 : v 10 = (.pointer (some ⟨w.heap.size + 1, 0, none⟩)) := HD.out ⟨5, .data⟩ (by simp) rfl
      rw [e1] at q10
      obtain ⟨k0, k1, k2, k3, k4, k5, k6⟩ := HF.out.bb
      have hP := (⟨s3, n3, A3, m3, c3, rfl, R3.out.keep HF.out.below⟩ : IV wx (.agg #[.int .i64 s3, .bool n3, .slice A3 m3 c3]) p2)
      clear hin hout ho hi
      go_simp
      exact hK _ _ (Below.refl _ _) hP
    · obtain rfl := Option.some.inj ho
      have sl2 : T'[2]? = some (.pointer (some ⟨w.heap.size, 0, none⟩)) := (hout 2 (by decide)).trans rfl
      clear hin hout ho hi
      go_simp
      exact hK _ _ (Below.refl _ _) rfl
    · obtain rfl := Option.some.inj ho
      have q12 := hin 12 (by decide)
      have e1 : v 12 = (.pointer (some ⟨w.heap.size, 3, none⟩)) := HD.out ⟨7, .data⟩ (by simp) rfl
      rw [e1] at q12
      obtain ⟨k0, k1, k2, k3, k4, k5, k6⟩ := HF.out.ba
      have hP := (⟨s2, n2, A2, m2, c2, rfl, R2.out.keep HF.out.below⟩ : IV wx (.agg #[.int .i64 s2, .bool n2, .slice A2 m2 c2]) q1)
      clear hin hout ho hi
      go_simp
      exact hK _ _ (Below.refl _ _) hP
    · obtain rfl := Option.some.inj ho
      have q11 := hin 11 (by decide)
      have q13 := hin 13 (by decide)
      have h0 : IV wx (v 11) p2 := HD.out ⟨6, .data⟩ (by simp) rfl
      have h1 : IV wx (v 13) q1 := HD.out ⟨8, .data⟩ (by simp) rfl
      clear hin hout ho hi
      go_simp
      (with_reducible refine (HT2.out _ _ _ h0 h1).mono ?_)
      rintro e w2 ⟨u, rfl, hu, hB⟩
      exact hK _ _ hB hu
    · obtain rfl := Option.some.inj ho
      have q9 := hin 9 (by decide)
      have q14 := hin 14 (by decide)
      have h0 : IV wx (v 9) t1 := HD.out ⟨4, .data⟩ (by simp) rfl
      have h1 : IV wx (v 14) t2 := HD.out ⟨9, .data⟩ (by simp) rfl
      clear hin hout ho hi
      go_simp
      (with_reducible refine (HP.out _ _ _ h0 h1).mono ?_)
      rintro e w2 ⟨u, rfl, hu, hB⟩
      exact hK _ _ hB hu
    · obtain rfl := Option.some.inj ho
      have sl2 : T'[2]? = some (.pointer (some ⟨w.heap.size, 0, none⟩)) := (hout 2 (by decide)).trans rfl
      clear hin hout ho hi
      go_simp
      exact hK _ _ (Below.refl _ _) rfl
    · obtain rfl := Option.some.inj ho
      have q16 := hin 16 (by decide)
      have e1 : v 16 = (.pointer (some ⟨w.heap.size, 3, none⟩)) := HD.out ⟨11, .data⟩ (by simp) rfl
      rw [e1] at q16
      obtain ⟨k0, k1, k2, k3, k4, k5, k6⟩ := HF.out.ba
      have hP := (⟨s2, n2, A2, m2, c2, rfl, R2.out.keep HF.out.below⟩ : IV wx (.agg #[.int .i64 s2, .bool n2, .slice A2 m2 c2]) q1)
      clear hin hout ho hi
      go_simp
      exact hK _ _ (Below.refl _ _) hP
    · obtain rfl := Option.some.inj ho
      have sl3 : T'[3]? = some (.pointer (some ⟨w.heap.size + 1, 0, none⟩)) := (hout 3 (by decide)).trans rfl
      clear hin hout ho hi
      go_simp
      exact hK _ _ (Below.refl _ _) rfl
    · obtain rfl := Option.some.inj ho
      have q18 := hin 18 (by decide)
      have e1 : v 18 = (.pointer (some ⟨w.heap.size + 1, 3, none⟩)) := HD.out ⟨13, .data⟩ (by simp) rfl
      rw [e1] at q18
      obtain ⟨k0, k1, k2, k3, k4, k5, k6⟩ := HF.out.bb
      have hP := (⟨s4, n4, A4, m4, c4, rfl, R4.out.keep HF.out.below⟩ : IV wx (.agg #[.int .i64 s4, .bool n4, .slice A4 m4 c4]) q2)
      clear hin hout ho hi
      go_simp
      exact hK _ _ (Below.refl _ _) hP
    · obtain rfl := Option.some.inj ho
      have q17 := hin 17 (by decide)
      have q19 := hin 19 (by decide)
      have h0 : IV wx (v 17) q1 := HD.out ⟨12, .data⟩ (by simp) rfl
      have h1 : IV wx (v 19) q2 := HD.out ⟨14, .data⟩ (by simp) rfl
      clear hin hout ho hi
      go_simp
      (with_reducible refine (HT3.out _ _ _ h0 h1).mono ?_)
      rintro e w2 ⟨u, rfl, hu, hB⟩
      exact hK _ _ hB hu
    · obtain rfl := Option.some.inj ho
      have q15 := hin 15 (by decide)
      have q20 := hin 20 (by decide)
      have h0 : IV wx (v 15) t3 := HD.out ⟨10, .data⟩ (by simp) rfl
      have h1 : IV wx (v 20) t4 := HD.out ⟨15, .data⟩ (by simp) rfl
      clear hin hout ho hi
      go_simp
      (with_reducible refine (HMk.out _ _ _ h0 h1).mono ?_)
      rintro e w2 ⟨u, rfl, hu, hB⟩
      exact hK _ _ hB hu
  · intro v wx o T' K ho hF hall hin hout hK
    obtain rfl := Option.some.inj ho
    have sl4 : T'[4]? = some (.pointer (some ⟨w.heap.size + 1 + 1, 0, none⟩)) := (hout 4 (by decide)).trans rfl
    have q21 := hin 21 (by decide)
    have h0 : RFV wx (v 21) z := hall 16 (by decide)
    clear hin hout hall ho
    obtain ⟨s5, n5, A5, m5, c5, s6, n6, A6, m6, c6, e5, h5, h6⟩ := h0
    rw [e5] at q21
    have HR := Lib.hid (endR_store hF.below (show w.heap.size ≤ w.heap.size + 1 + 1 by omega) hF.wc h5 h6)
    obtain ⟨⟨o0, o1, o2, o3, o4, o5, p0, p1, p2, p3, p4, p5⟩, ⟨f0, f1, f2, f3, f4, f5⟩, -⟩ := hF.wc
    clear e5 h5 h6 hF
    go_simp
    exact hK _ HR.out
  · intro v wx hE
    obtain ⟨s5, n5, A5, m5, c5, s6, n6, A6, m6, c6, ⟨k0, k1, k2, k3, k4, k5, -⟩, h5, h6, hB⟩ := hE
    have H5 := Lib.hid h5
    have H6 := Lib.hid h6
    have HB := Lib.hid hB
    clear h5 h6 hB
    simp only [over, List.setIfInBounds_toArray, List.set_cons_zero, List.set_cons_succ]
    generalize v 5 = v5
    generalize v 6 = v6
    generalize v 7 = v7
    generalize v 8 = v8
    generalize v 9 = v9
    generalize v 10 = v10
    generalize v 11 = v11
    generalize v 12 = v12
    generalize v 13 = v13
    generalize v 14 = v14
    generalize v 15 = v15
    generalize v 16 = v16
    generalize v 17 = v17
    generalize v 18 = v18
    generalize v 19 = v19
    generalize v 20 = v20
    generalize v 21 = v21
    go_wp2_with fail
    exact bodyPost_ret (v := .agg #[.int .i64 s5, .bool n5, .slice A5 m5 c5, .int .i64 s6, .bool n6, .slice A6 m6 c6]) (by simp [results, Tryz.results97, go_sem, *]) rfl ⟨_, rfl, ⟨s5, n5, A5, m5, c5, s6, n6, A6, m6, c6, rfl, H5.out, H6.out⟩, HB.out⟩
end Go.Proofs.YtmfnpipmbpnfbaaGreatDoor
