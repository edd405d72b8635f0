/- Fractions of the reference: the negative, the difference, the sign, the order; numbers as fractions. -/
import Derived.Test.YtmfnpipmbpnfbaaGreatDoorF24
import Derived.Test.YtmfnpipmbpnfbaaGreatDoorF23

set_option maxRecDepth 100000
set_option maxHeartbeats 40000000
namespace Go.Proofs.YtmfnpipmbpnfbaaGreatDoor
open Go.RowKit
theorem rat_neg_num (x : Rat) : (-x).num = -x.num := rfl
theorem rat_neg_den (x : Rat) : (-x).den = x.den := rfl
theorem rv_minus (K : Nat) {u : Value} {x : Rat} {w : World} (h : RFV w u x) (hK : K ≤ 250000) (hx : x.num.natAbs < Bs ^ K) : Calls Tryz.prog 158 #[u] w (RetV (.rat (-x)) w) := by
  obtain ⟨s1, n1, A1, m1, c1, s2, n2, A2, m2, c2, rfl, r1, r2⟩ := h
  have R1 := Lib.hid r1
  have R2 := Lib.hid r2
  clear r1 r2
  have HM : Hid (∀ wx u, IV wx u x.num → Calls Tryz.prog 136 #[u] wx (RetV (.int (-x.num)) wx)) := fun wx u k1 => iv_minus K k1 hK hx
  have HE1 : Hid ((-x).num = -x.num) := rat_neg_num x
  have HE2 : Hid ((-x).den = x.den) := rat_neg_den x
  clear hK hx
  generalize -x = z at HE1 HE2 ⊢
  generalize -x.num = t at HM HE1
  have R2' : Hid (RI w s2 n2 A2 m2 c2 (z.den : Int)) := by
    show RI w s2 n2 A2 m2 c2 (z.den : Int)
    rw [HE2.out]
    exact R2.out
  clear R2 HE2
  have R2 := R2'
  clear R2'
  generalize x.num = p1 at R1 HM
  generalize hq : (z.den : Int) = q1 at R2
  have HQ := Lib.hid hq
  clear hq
  go_enter Tryz.func158, Tryz.ntmps158
  go_upto_region 1 with fail
  generalize hX : (w.alloc _).alloc _ = X
  have HX : Hid (F1 w (.int .i64 s1) (.bool n1) (.slice A1 m1 c1) (.int .i64 s2) (.bool n2) (.slice A2 m2 c2) X) := by
    subst hX
    exact F1.new w _ _ _ _ _ _ _ _ _ _ _ _
  clear hX
  refine wp_region_flow_store 6 [3, 4, 5, 6, 7, 8] (fun i => 3 + i) (F1 w (.int .i64 s1) (.bool n1) (.slice A1 m1 c1) (.int .i64 s2) (.bool n2) (.slice A2 m2 c2)) (EndR w (w.heap.size + 1) z) (Spl [.val (.pointer (some ⟨w.heap.size, 0, none⟩)), .int p1, .int t, .val (.pointer (some ⟨w.heap.size, 3, none⟩)), .int q1, .rat z]) (by kernel_rfl) (by kernel_rfl) (by kernel_rfl) (by kernel_rfl) (by kernel_rfl) (fun i j _ _ h => Nat.add_left_cancel (show 3 + i = 3 + j from h)) (by decide) F1.keep Spl.keep ?_ ?_ ?_ ?_
  · exact HX.out.keep _ _ (Below.drew (Below.refl _ _))
  · intro i v wx o T' K hi ho hF hdep hin hout hK
    have HF := Lib.hid hF
    have HD := Lib.hid hdep
    clear hF hdep
    rcases (by omega : i = 0 ∨ i = 1 ∨ i = 2 ∨ i = 3 ∨ i = 4 ∨ i = 5) with rfl | rfl | rfl | rfl | rfl | rfl
    · obtain rfl := Option.some.inj ho
      have sl1 : T'[1]? = some (.pointer (some ⟨w.heap.size, 0, none⟩)) := (hout 1 (by decide)).trans rfl
      clear hin hout ho hi
      go_simp
      exact hK _ _ (Below.refl _ _) rfl
    · obtain rfl := Option.some.inj ho
      have q3 := hin 3 (by decide)
      have e1 : v 3 = (.pointer (some ⟨w.heap.size, 0, none⟩)) := HD.out ⟨0, .data⟩ (by simp) rfl
      rw [e1] at q3
      obtain ⟨k0, k1, k2, k3, k4, k5, k6⟩ := HF.out.ba
      have hP := (⟨s1, n1, A1, m1, c1, rfl, R1.out.keep HF.out.below⟩ : IV wx (.agg #[.int .i64 s1, .bool n1, .slice A1 m1 c1]) p1)
      clear hin hout ho hi
      go_simp
      exact hK _ _ (Below.refl _ _) hP
    · obtain rfl := Option.some.inj ho
      have q4 := hin 4 (by decide)
      have h0 : IV wx (v 4) p1 := HD.out ⟨1, .data⟩ (by simp) rfl
      clear hin hout ho hi
      go_simp
      (with_reducible refine (HM.out _ _ h0).mono ?_)
      rintro e w2 ⟨u, rfl, hu, hB⟩
      exact hK _ _ hB hu
    · obtain rfl := Option.some.inj ho
      have sl1 : T'[1]? = some (.pointer (some ⟨w.heap.size, 0, none⟩)) := (hout 1 (by decide)).trans rfl
      clear hin hout ho hi
      go_simp
      exact hK _ _ (Below.refl _ _) rfl
    · obtain rfl := Option.some.inj ho
      have q6 := hin 6 (by decide)
      have e1 : v 6 = (.pointer (some ⟨w.heap.size, 3, none⟩)) := HD.out ⟨3, .data⟩ (by simp) rfl
      rw [e1] at q6
      obtain ⟨k0, k1, k2, k3, k4, k5, k6⟩ := HF.out.ba
      have hP := (⟨s2, n2, A2, m2, c2, rfl, R2.out.keep HF.out.below⟩ : IV wx (.agg #[.int .i64 s2, .bool n2, .slice A2 m2 c2]) q1)
      clear hin hout ho hi
      go_simp
      exact hK _ _ (Below.refl _ _) hP
    · obtain rfl := Option.some.inj ho
      have q5 := hin 5 (by decide)
      have q7 := hin 7 (by decide)
      have e0 : IV wx (v 5) t := HD.out ⟨2, .data⟩ (by simp) rfl
      have e1 : IV wx (v 7) q1 := HD.out ⟨4, .data⟩ (by simp) rfl
      obtain ⟨s5, n5, A5, m5, c5, g0, h5⟩ := e0
      obtain ⟨s6, n6, A6, m6, c6, g1, h6⟩ := e1
      rw [g0] at q5
      rw [g1] at q7
      rw [← HE1.out] at h5
      rw [← HQ.out] at h6
      have HW := Lib.hid (show RFV wx (.agg #[.int .i64 s5, .bool n5, .slice A5 m5 c5, .int .i64 s6, .bool n6, .slice A6 m6 c6]) z from ⟨s5, n5, A5, m5, c5, s6, n6, A6, m6, c6, rfl, h5, h6⟩)
      clear g0 g1 h5 h6
      clear hin hout ho hi
      go_simp
      exact hK _ _ (Below.refl _ _) HW.out
  · intro v wx o T' K ho hF hall hin hout hK
    obtain rfl := Option.some.inj ho
    have sl2 : T'[2]? = some (.pointer (some ⟨w.heap.size + 1, 0, none⟩)) := (hout 2 (by decide)).trans rfl
    have q8 := hin 8 (by decide)
    have h0 : RFV wx (v 8) z := hall 5 (by decide)
    clear hin hout hall ho
    obtain ⟨s5, n5, A5, m5, c5, s6, n6, A6, m6, c6, e5, h5, h6⟩ := h0
    rw [e5] at q8
    have HR := Lib.hid (endR_store hF.below (show w.heap.size ≤ w.heap.size + 1 by omega) hF.wc h5 h6)
    obtain ⟨⟨o0, o1, o2, o3, o4, o5, p0, p1, p2, p3, p4, p5⟩, ⟨f0, f1, f2, f3, f4, f5⟩, -⟩ := hF.wc
    clear e5 h5 h6 hF
    go_simp
    exact hK _ HR.out
  · intro v wx hE
    obtain ⟨s5, n5, A5, m5, c5, s6, n6, A6, m6, c6, ⟨k0, k1, k2, k3, k4, k5, -⟩, h5, h6, hB⟩ := hE
    have H5 := Lib.hid h5
    have H6 := Lib.hid h6
    have HB := Lib.hid hB
    clear h5 h6 hB
    simp only [over, List.setIfInBounds_toArray, List.set_cons_zero, List.set_cons_succ]
    generalize v 3 = v3
    generalize v 4 = v4
    generalize v 5 = v5
    generalize v 6 = v6
    generalize v 7 = v7
    generalize v 8 = v8
    go_wp2_with fail
    exact bodyPost_ret (v := .agg #[.int .i64 s5, .bool n5, .slice A5 m5 c5, .int .i64 s6, .bool n6, .slice A6 m6 c6]) (by simp [results, Tryz.results158, go_sem, *]) rfl ⟨_, rfl, ⟨s5, n5, A5, m5, c5, s6, n6, A6, m6, c6, rfl, H5.out, H6.out⟩, HB.out⟩
theorem rv_less (K : Nat) {u u' : Value} {x y : Rat} {w : World} (h : RFV w u x) (h' : RFV w u' y) (hK : 2 * K + 1 ≤ 250000) (hx : x.num.natAbs < Bs ^ K ∧ x.den < Bs ^ K) (hy : y.num.natAbs < Bs ^ K ∧ y.den < Bs ^ K) : Calls Tryz.prog 131 #[u, u'] w (RetV (.rat (x - y)) w) := by
  obtain ⟨s1, n1, A1, m1, c1, s2, n2, A2, m2, c2, rfl, r1, r2⟩ := h
  have R1 := Lib.hid r1
  have R2 := Lib.hid r2
  obtain ⟨s3, n3, A3, m3, c3, s4, n4, A4, m4, c4, rfl, r3, r4⟩ := h'
  have R3 := Lib.hid r3
  have R4 := Lib.hid r4
  clear r3 r4
  clear r1 r2
  have HM : Hid (∀ wx u, RFV wx u y → Calls Tryz.prog 158 #[u] wx (RetV (.rat (-y)) wx)) := fun wx u k1 => rv_minus K k1 (by omega) hy.1
  have HP : Hid (∀ wx u u', RFV wx u x → RFV wx u' (-y) → Calls Tryz.prog 97 #[u, u'] wx (RetV (.rat (x - y)) wx)) := fun wx u u' k1 k2 => by
    rw [Rat.sub_eq_add_neg]
    exact rv_plus K k1 k2 hK hx (by rw [rat_neg_num, rat_neg_den, Int.natAbs_neg]; exact hy)
  clear hK hx hy
  generalize x - y = z at HP ⊢
  generalize -y = y2 at HM HP
  go_enter Tryz.func131, Tryz.ntmps131
  go_upto_region 1 with fail
  generalize hX : ((w.alloc _).alloc _).alloc _ = X
  have HX : Hid (F2 w (.int .i64 s1) (.bool n1) (.slice A1 m1 c1) (.int .i64 s2) (.bool n2) (.slice A2 m2 c2) (.int .i64 s3) (.bool n3) (.slice A3 m3 c3) (.int .i64 s4) (.bool n4) (.slice A4 m4 c4) X) := by
    subst hX
    exact F2.new w _ _ _ _ _ _ _ _ _ _ _ _ _ _ _ _ _ _
  clear hX
  refine wp_region_flow_store 4 [5, 6, 7, 8] (fun i => 5 + i) (F2 w (.int .i64 s1) (.bool n1) (.slice A1 m1 c1) (.int .i64 s2) (.bool n2) (.slice A2 m2 c2) (.int .i64 s3) (.bool n3) (.slice A3 m3 c3) (.int .i64 s4) (.bool n4) (.slice A4 m4 c4)) (EndR w (w.heap.size + 1 + 1) z) (Spl [.rat x, .rat y, .rat y2, .rat z]) (by kernel_rfl) (by kernel_rfl) (by kernel_rfl) (by kernel_rfl) (by kernel_rfl) (fun i j _ _ h => Nat.add_left_cancel (show 5 + i = 5 + j from h)) (by decide) F2.keep Spl.keep ?_ ?_ ?_ ?_
  · exact HX.out.keep _ _ (Below.drew (Below.refl _ _))
  · intro i v wx o T' K hi ho hF hdep hin hout hK
    have HF := Lib.hid hF
    have HD := Lib.hid hdep
    clear hF hdep
    rcases (by omega : i = 0 ∨ i = 1 ∨ i = 2 ∨ i = 3) with rfl | rfl | rfl | rfl
    · obtain rfl := Option.some.inj ho
      have sl2 : T'[2]? = some (.pointer (some ⟨w.heap.size, 0, none⟩)) := (hout 2 (by decide)).trans rfl
      obtain ⟨k0, k1, k2, k3, k4, k5, k6⟩ := HF.out.ba
      have hP := (⟨s1, n1, A1, m1, c1, s2, n2, A2, m2, c2, rfl, R1.out.keep HF.out.below, R2.out.keep HF.out.below⟩ : RFV wx (.agg #[.int .i64 s1, .bool n1, .slice A1 m1 c1, .int .i64 s2, .bool n2, .slice A2 m2 c2]) x)
      clear hin hout ho hi
      go_simp
      exact hK _ _ (Below.refl _ _) hP
    · obtain rfl := Option.some.inj ho
      have sl3 : T'[3]? = some (.pointer (some ⟨w.heap.size + 1, 0, none⟩)) := (hout 3 (by decide)).trans rfl
      obtain ⟨k0, k1, k2, k3, k4, k5, k6⟩ := HF.out.bb
      have hP := (⟨s3, n3, A3, m3, c3, s4, n4, A4, m4, c4, rfl, R3.out.keep HF.out.below, R4.out.keep HF.out.below⟩ : RFV wx (.agg #[.int .i64 s3, .bool n3, .slice A3 m3 c3, .int .i64 s4, .bool n4, .slice A4 m4 c4]) y)
      clear hin hout ho hi
      go_simp
      exact hK _ _ (Below.refl _ _) hP
    · obtain rfl := Option.some.inj ho
      have q6 := hin 6 (by decide)
      have h0 : RFV wx (v 6) y := HD.out ⟨1, .data⟩ (by simp) rfl
      clear hin hout ho hi
      go_simp
      (with_reducible refine (HM.out _ _ h0).mono ?_)
      rintro e w2 ⟨u, rfl, hu, hB⟩
      exact hK _ _ hB hu
    · obtain rfl := Option.some.inj ho
      have q5 := hin 5 (by decide)
      have q7 := hin 7 (by decide)
      have h0 : RFV wx (v 5) x := HD.out ⟨0, .data⟩ (by simp) rfl
      have h1 : RFV wx (v 7) y2 := HD.out ⟨2, .data⟩ (by simp) rfl
      clear hin hout ho hi
      go_simp
      (with_reducible refine (HP.out _ _ _ h0 h1).mono ?_)
      rintro e w2 ⟨u, rfl, hu, hB⟩
      exact hK _ _ hB hu
  · intro v wx o T' K ho hF hall hin hout hK
    obtain rfl := Option.some.inj ho
    have sl4 : T'[4]? = some (.pointer (some ⟨w.heap.size + 1 + 1, 0, none⟩)) := (hout 4 (by decide)).trans rfl
    have q8 := hin 8 (by decide)
    have h0 : RFV wx (v 8) z := hall 3 (by decide)
    clear hin hout hall ho
    obtain ⟨s5, n5, A5, m5, c5, s6, n6, A6, m6, c6, e5, h5, h6⟩ := h0
    rw [e5] at q8
    have HR := Lib.hid (endR_store hF.below (show w.heap.size ≤ w.heap.size + 1 + 1 by omega) hF.wc h5 h6)
    obtain ⟨⟨o0, o1, o2, o3, o4, o5, p0, p1, p2, p3, p4, p5⟩, ⟨f0, f1, f2, f3, f4, f5⟩, -⟩ := hF.wc
    clear e5 h5 h6 hF
    go_simp
    exact hK _ HR.out
  · intro v wx hE
    obtain ⟨s5, n5, A5, m5, c5, s6, n6, A6, m6, c6, ⟨k0, k1, k2, k3, k4, k5, -⟩, h5, h6, hB⟩ := hE
    have H5 := Lib.hid h5
    have H6 := Lib.hid h6
    have HB := Lib.hid hB
    clear h5 h6 hB
    simp only [over, List.setIfInBounds_toArray, List.set_cons_zero, List.set_cons_succ]
    generalize v 5 = v5
    generalize v 6 = v6
    generalize v 7 = v7
    generalize v 8 = v8
    go_wp2_with fail
    exact bodyPost_ret (v := .agg #[.int .i64 s5, .bool n5, .slice A5 m5 c5, .int .i64 s6, .bool n6, .slice A6 m6 c6]) (by simp [results, Tryz.results131, go_sem, *]) rfl ⟨_, rfl, ⟨s5, n5, A5, m5, c5, s6, n6, A6, m6, c6, rfl, H5.out, H6.out⟩, HB.out⟩
theorem rv_sign (K : Nat) {u : Value} {x : Rat} {w : World} (h : RFV w u x) (hK : K ≤ 250000) (hx : x.num.natAbs < Bs ^ K) : Calls Tryz.prog 132 #[u] w (RetV (.val (.int .i64 (sgnI x.num))) w) := by
  obtain ⟨s1, n1, A1, m1, c1, s2, n2, A2, m2, c2, rfl, r1, r2⟩ := h
  have HS : Hid (∀ wx, Below w.heap.size w wx → Calls Tryz.prog 108 #[.agg #[.int .i64 s1, .bool n1, .slice A1 m1 c1]] wx (RetV (.val (.int .i64 (sgnI x.num))) wx)) := fun wx hb => iv_sign K ⟨s1, n1, A1, m1, c1, rfl, r1.keep hb⟩ hK hx
  clear r1 r2 hK hx
  generalize sgnI x.num = t at HS ⊢
  go_enter Tryz.func132, Tryz.ntmps132
  go_upto_region 1 with fail
  generalize hX : w.alloc _ = X
  have HX : Hid (Below w.heap.size w X) := by
    subst hX
    exact below_alloc _ _
  obtain ⟨k0, k1, k2⟩ : X.cell? ⟨w.heap.size, 0, none⟩ = some (.int .i64 s1) ∧ X.cell? ⟨w.heap.size, 1, none⟩ = some (.bool n1) ∧ X.cell? ⟨w.heap.size, 2, none⟩ = some (.slice A1 m1 c1) := by
    subst hX
    simp [go_sem]
  clear hX
  go_wp2_with fail
  (with_reducible refine (HS.out _ HX.out).mono ?_)
  rintro e w1 ⟨u, rfl, rfl, hB⟩
  have HB := Lib.hid (HX.out.trans (hB.mono HX.out.size))
  clear k0 k1 k2 hB
  go_wp2_with fail
  go_ret
  exact ⟨_, rfl, rfl, HB.out⟩
theorem rv_compare (K : Nat) {u u' : Value} {x y : Rat} {w : World} (h : RFV w u x) (h' : RFV w u' y) (hK : 2 * K + 1 ≤ 250000) (hx : x.num.natAbs < Bs ^ K ∧ x.den < Bs ^ K) (hy : y.num.natAbs < Bs ^ K ∧ y.den < Bs ^ K) : Calls Tryz.prog 99 #[u, u'] w (RetV (.val (.int .i64 (sgnI (x - y).num))) w) := by
  have HL : Hid (∀ wx, Below w.heap.size w wx → Calls Tryz.prog 131 #[u, u'] wx (RetV (.rat (x - y)) wx)) := fun wx hb => rv_less K (h.keep hb) (h'.keep hb) hK hx hy
  have hb : (x - y).num.natAbs < Bs ^ (2 * K + 1) := by
    have := (add_size (x := x) (y := -y) hx (by rw [rat_neg_num, rat_neg_den, Int.natAbs_neg]; exact hy)).1
    rw [← Rat.sub_eq_add_neg] at this
    exact this
  have HS : Hid (∀ wx u, RFV wx u (x - y) → Calls Tryz.prog 132 #[u] wx (RetV (.val (.int .i64 (sgnI (x - y).num))) wx)) := fun wx u k => rv_sign (2 * K + 1) k hK hb
  clear hb hK hx hy
  generalize sgnI (x - y).num = t at HS ⊢
  generalize x - y = z at HL HS
  obtain ⟨s1, n1, A1, m1, c1, s2, n2, A2, m2, c2, rfl, r1, r2⟩ := h
  obtain ⟨s3, n3, A3, m3, c3, s4, n4, A4, m4, c4, rfl, r3, r4⟩ := h'
  clear r1 r2 r3 r4
  go_enter Tryz.func99, Tryz.ntmps99
  go_upto_region 1 with fail
  generalize hX : (w.alloc _).alloc _ = X
  have HX : Hid (Below w.heap.size w X) := by
    subst hX
    exact below_two w _ _
  obtain ⟨⟨k0, k1, k2, k3, k4, k5⟩, j0, j1, j2, j3, j4, j5⟩ : (X.cell? ⟨w.heap.size, 0, none⟩ = some (.int .i64 s1) ∧ X.cell? ⟨w.heap.size, 1, none⟩ = some (.bool n1) ∧ X.cell? ⟨w.heap.size, 2, none⟩ = some (.slice A1 m1 c1) ∧ X.cell? ⟨w.heap.size, 3, none⟩ = some (.int .i64 s2) ∧ X.cell? ⟨w.heap.size, 4, none⟩ = some (.bool n2) ∧ X.cell? ⟨w.heap.size, 5, none⟩ = some (.slice A2 m2 c2)) ∧
      X.cell? ⟨w.heap.size + 1, 0, none⟩ = some (.int .i64 s3) ∧ X.cell? ⟨w.heap.size + 1, 1, none⟩ = some (.bool n3) ∧ X.cell? ⟨w.heap.size + 1, 2, none⟩ = some (.slice A3 m3 c3) ∧ X.cell? ⟨w.heap.size + 1, 3, none⟩ = some (.int .i64 s4) ∧ X.cell? ⟨w.heap.size + 1, 4, none⟩ = some (.bool n4) ∧ X.cell? ⟨w.heap.size + 1, 5, none⟩ = some (.slice A4 m4 c4) := by
    subst hX
    simp [go_sem]
  clear hX
  go_wp2_with fail
  (with_reducible refine (HL.out _ HX.out).mono ?_)
  rintro e w1 ⟨u, rfl, hu, hB⟩
  have HB := Lib.hid (HX.out.trans (hB.mono HX.out.size))
  have HU : Hid (RFV w1 u z) := hu
  clear k0 k1 k2 k3 k4 k5 j0 j1 j2 j3 j4 j5 hB hu
  go_wp2_with fail
  (with_reducible refine (HS.out _ _ HU.out).mono ?_)
  rintro e w2 ⟨u, rfl, rfl, hB2⟩
  have HB2 := Lib.hid (HB.out.trans (hB2.mono HB.out.size))
  clear hB2
  go_wp2_with fail
  go_ret
  exact ⟨_, rfl, rfl, HB2.out⟩
def B2n (g : Nat) (a b : Value) (w : World) : Prop := w.cell? ⟨g, 0, none⟩ = some a ∧ w.cell? ⟨g, 1, none⟩ = some b ∧ g < w.heap.size
theorem B2n.keep {g : Nat} {a b : Value} {w w' : World} (h : B2n g a b w) (hb : Below w.heap.size w w') : B2n g a b w' := by
  obtain ⟨h0, h1, hz⟩ := h
  exact ⟨(hb.cell (p := ⟨g, 0, none⟩) hz).trans h0, (hb.cell (p := ⟨g, 1, none⟩) hz).trans h1, Nat.lt_of_lt_of_le hz hb.size⟩
structure FN2 (w : World) (a b : Value) (wx : World) : Prop where
  below : Below w.heap.size w wx
  ba : B2n w.heap.size a b wx
  wc : W6 (w.heap.size + 1) wx
theorem FN2.keep {w : World} {a b : Value} (wx wy : World) (h : FN2 w a b wx) (hb : Below wx.heap.size wx wy) : FN2 w a b wy :=
  ⟨h.below.trans (hb.mono h.below.size), h.ba.keep hb, h.wc.keep hb⟩
theorem FN2.new (w : World) (a b p q r p' q' r' : Value) : FN2 w a b ((w.alloc (.cells #[a, b] 62)).alloc (.cells #[p, q, r, p', q', r'] 127)) := by
  refine ⟨((Below.refl _ _).alloc (Nat.le_refl _) _).alloc (by simp) _, ?_, W6.new _ _ _ _ _ _ _ (by simp)⟩
  simp [B2n, go_sem]
theorem rv_to (x : Rat) (w : World) (hp : x.num.natAbs ≤ 1152921504606846976) (hq : x.den ≤ 1152921504606846976) : Calls Tryz.prog 98 #[.agg #[.int .i64 x.num, .int .i64 (x.den : Int)]] w (RetV (.rat x) w) := by
  have HO1 : Hid (∀ wx, Calls Tryz.prog 70 #[.int .i64 x.num] wx (RetV (.int x.num) wx)) := fun wx => iv_of _ wx (by omega) (by omega)
  have HO2 : Hid (∀ wx, Calls Tryz.prog 70 #[.int .i64 (x.den : Int)] wx (RetV (.int (x.den : Int)) wx)) := fun wx => iv_of _ wx (by omega) (by omega)
  clear hp hq
  generalize hp : x.num = p1 at HO1 ⊢
  generalize hq : (x.den : Int) = q1 at HO2 ⊢
  have HE1 := Lib.hid hp
  have HQ := Lib.hid hq
  clear hp hq
  go_enter Tryz.func98, Tryz.ntmps98
  go_upto_region 1 with fail
  generalize hX : (w.alloc _).alloc _ = X
  have HX : Hid (FN2 w (.int .i64 p1) (.int .i64 q1) X) := by
    subst hX
    exact FN2.new w _ _ _ _ _ _ _ _
  clear hX
  refine wp_region_flow_store 7 [3, 4, 5, 6, 7, 8, 9] (fun i => 3 + i) (FN2 w (.int .i64 p1) (.int .i64 q1)) (EndR w (w.heap.size + 1) x) (Spl [.val (.pointer (some ⟨w.heap.size, 0, none⟩)), .val (.int .i64 p1), .int p1, .val (.pointer (some ⟨w.heap.size, 1, none⟩)), .val (.int .i64 q1), .int q1, .rat x]) (by kernel_rfl) (by kernel_rfl) (by kernel_rfl) (by kernel_rfl) (by kernel_rfl) (fun i j _ _ h => Nat.add_left_cancel (show 3 + i = 3 + j from h)) (by decide) FN2.keep Spl.keep ?_ ?_ ?_ ?_
  · exact HX.out.keep _ _ (Below.drew (Below.refl _ _))
  · intro i v wx o T' K hi ho hF hdep hin hout hK
    have HF := Lib.hid hF
    have HD := Lib.hid hdep
    clear hF hdep
    rcases (by omega : i = 0 ∨ i = 1 ∨ i = 2 ∨ i = 3 ∨ i = 4 ∨ i = 5 ∨ i = 6) with rfl | rfl | rfl | rfl | rfl | rfl | rfl
    · obtain rfl := Option.some.inj ho
      have sl1 : T'[1]? = some (.pointer (some ⟨w.heap.size, 0, none⟩)) := (hout 1 (by decide)).trans rfl
      clear hin hout ho hi
      go_simp
      exact hK _ _ (Below.refl _ _) rfl
    · obtain rfl := Option.some.inj ho
      have q3 := hin 3 (by decide)
      have e1 : v 3 = (.pointer (some ⟨w.heap.size, 0, none⟩)) := HD.out ⟨0, .data⟩ (by simp) rfl
      rw [e1] at q3
      obtain ⟨k0, k1, k2⟩ := HF.out.ba
      have hP := (rfl : Value.int .i64 p1 = .int .i64 p1)
      clear hin hout ho hi
      go_simp
      exact hK _ _ (Below.refl _ _) hP
    · obtain rfl := Option.some.inj ho
      have q4 := hin 4 (by decide)
      have e0 : v 4 = (.int .i64 p1) := HD.out ⟨1, .data⟩ (by simp) rfl
      rw [e0] at q4
      clear hin hout ho hi
      go_simp
      (with_reducible refine (HO1.out _).mono ?_)
      rintro e w2 ⟨u, rfl, hu, hB⟩
      exact hK _ _ hB hu
    · obtain rfl := Option.some.inj ho
      have sl1 : T'[1]? = some (.pointer (some ⟨w.heap.size, 0, none⟩)) := (hout 1 (by decide)).trans rfl
      clear hin hout ho hi
      go_simp
      exact hK _ _ (Below.refl _ _) rfl
    · obtain rfl := Option.some.inj ho
      have q6 := hin 6 (by decide)
      have e1 : v 6 = (.pointer (some ⟨w.heap.size, 1, none⟩)) := HD.out ⟨3, .data⟩ (by simp) rfl
      rw [e1] at q6
      obtain ⟨k0, k1, k2⟩ := HF.out.ba
      have hP := (rfl : Value.int .i64 q1 = .int .i64 q1)
      clear hin hout ho hi
      go_simp
      exact hK _ _ (Below.refl _ _) hP
    · obtain rfl := Option.some.inj ho
      have q7 := hin 7 (by decide)
      have e0 : v 7 = (.int .i64 q1) := HD.out ⟨4, .data⟩ (by simp) rfl
      rw [e0] at q7
      clear hin hout ho hi
      go_simp
      (with_reducible refine (HO2.out _).mono ?_)
      rintro e w2 ⟨u, rfl, hu, hB⟩
      exact hK _ _ hB hu
    · obtain rfl := Option.some.inj ho
      have q5 := hin 5 (by decide)
      have q8 := hin 8 (by decide)
      have e0 : IV wx (v 5) p1 := HD.out ⟨2, .data⟩ (by simp) rfl
      have e1 : IV wx (v 8) q1 := HD.out ⟨5, .data⟩ (by simp) rfl
      obtain ⟨s5, n5, A5, m5, c5, g0, h5⟩ := e0
      obtain ⟨s6, n6, A6, m6, c6, g1, h6⟩ := e1
      rw [g0] at q5
      rw [g1] at q8
      rw [← HE1.out] at h5
      rw [← HQ.out] at h6
      have HW := Lib.hid (show RFV wx (.agg #[.int .i64 s5, .bool n5, .slice A5 m5 c5, .int .i64 s6, .bool n6, .slice A6 m6 c6]) x from ⟨s5, n5, A5, m5, c5, s6, n6, A6, m6, c6, rfl, h5, h6⟩)
      clear g0 g1 h5 h6
      clear hin hout ho hi
      go_simp
      exact hK _ _ (Below.refl _ _) HW.out
  · intro v wx o T' K ho hF hall hin hout hK
    obtain rfl := Option.some.inj ho
    have sl2 : T'[2]? = some (.pointer (some ⟨w.heap.size + 1, 0, none⟩)) := (hout 2 (by decide)).trans rfl
    have q9 := hin 9 (by decide)
    have h0 : RFV wx (v 9) x := hall 6 (by decide)
    clear hin hout hall ho
    obtain ⟨s5, n5, A5, m5, c5, s6, n6, A6, m6, c6, e5, h5, h6⟩ := h0
    rw [e5] at q9
    have HR := Lib.hid (endR_store hF.below (show w.heap.size ≤ w.heap.size + 1 by omega) hF.wc h5 h6)
    obtain ⟨⟨o0, o1, o2, o3, o4, o5, p0, p1, p2, p3, p4, p5⟩, ⟨f0, f1, f2, f3, f4, f5⟩, -⟩ := hF.wc
    clear e5 h5 h6 hF
    go_simp
    exact hK _ HR.out
  · intro v wx hE
    obtain ⟨s5, n5, A5, m5, c5, s6, n6, A6, m6, c6, ⟨k0, k1, k2, k3, k4, k5, -⟩, h5, h6, hB⟩ := hE
    have H5 := Lib.hid h5
    have H6 := Lib.hid h6
    have HB := Lib.hid hB
    clear h5 h6 hB
    simp only [over, List.setIfInBounds_toArray, List.set_cons_zero, List.set_cons_succ]
    generalize v 3 = v3
    generalize v 4 = v4
    generalize v 5 = v5
    generalize v 6 = v6
    generalize v 7 = v7
    generalize v 8 = v8
    generalize v 9 = v9
    go_wp2_with fail
    exact bodyPost_ret (v := .agg #[.int .i64 s5, .bool n5, .slice A5 m5 c5, .int .i64 s6, .bool n6, .slice A6 m6 c6]) (by simp [results, Tryz.results98, go_sem, *]) rfl ⟨_, rfl, ⟨s5, n5, A5, m5, c5, s6, n6, A6, m6, c6, rfl, H5.out, H6.out⟩, HB.out⟩
end Go.Proofs.YtmfnpipmbpnfbaaGreatDoor
