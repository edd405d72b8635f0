/- exact.Ratio. Quotients of integers of up to a thousand digits, as fractions in memory. -/
import Derived.Test.YtfhmhkbjcccejaaGreatDoorZ40

namespace Go.Proofs.YtfhmhkbjcccejaaGreatDoor
open Go.RowKit

set_option maxRecDepth 100000 in
set_option maxHeartbeats 20000000 in
theorem ratio_neg (z z' p q g s2 : Int) (b1 b2 : Bool) (A1 A2 : Option Addr) (m1 c1 m2 c2 : Nat) (x : Rat) (w : World) (g0 : decide (s2 < 0) = true)
    (H1 : Hid (PV w (.agg #[.bool b1, .slice A1 m1 c1]) z)) (H2 : Hid (PV w (.agg #[.bool b2, .slice A2 m2 c2]) z'))
    (HS : Hid (∀ wx, Calls Tryz.prog 48 #[.agg #[.bool b2, .slice A2 m2 c2]] wx fun e w' => e = .returned (.int .i64 s2) ∧ Below wx.heap.size wx w'))
    (HNp : Hid (∀ wx u, PV wx u z → Calls Tryz.prog 49 #[u] wx (RetW (.pint p) wx))) (HNq : Hid (∀ wx u, PV wx u z' → Calls Tryz.prog 49 #[u] wx (RetW (.pint q) wx)))
    (HG : Hid (∀ wx u u', PV wx u p → PV wx u' q → Calls Tryz.prog 50 #[u, u'] wx (RetW (.pint g) wx)))
    (HO1 : Hid (∀ wx u u', PV wx u p → PV wx u' g → Calls Tryz.prog 51 #[u, u'] wx (RetW (.pint x.num) wx)))
    (HO2 : Hid (∀ wx u u', PV wx u q → PV wx u' g → Calls Tryz.prog 51 #[u, u'] wx (RetW (.pint (x.den : Int)) wx)))
    :
    Calls Tryz.prog 19 #[.agg #[.bool b1, .slice A1 m1 c1], .agg #[.bool b2, .slice A2 m2 c2]] w (RetW (.prat x) w) := by
  go_enter Tryz.func19, Tryz.ntmps19
  go_upto_region 1 with fail
  generalize hX : ((w.alloc _).alloc _).alloc _ = X
  have HX : Hid (Rt2 w z z' b1 b2 A1 A2 m1 c1 m2 c2 X) := by
    have hB : Below w.heap.size w X := by subst hX; exact (((Below.refl _ _).alloc (Nat.le_refl _) _).alloc (by simp) _).alloc (by simp; omega) _
    refine ⟨⟨hB, ?_, ?_, ?_⟩, ?_, ?_, H1.out.keep hB, H2.out.keep hB⟩
    · subst hX; exact ((Wr.new w _ _ _ rfl).keep (below_alloc _ _)).keep (below_alloc _ _)
    · subst hX; exact (Wr.new _ _ _ _ (by simp)).keep (below_alloc _ _)
    · subst hX; exact Wr4.new _ _ _ _ _ _ (by simp)
    · subst hX; simp [B2n, go_sem]
    · subst hX; simp [B2n, go_sem]
  clear hX H1 H2
  obtain ⟨j0, j1, -⟩ := HX.out.bq
  go_wp2_with fail
  (with_reducible refine (HS.out _).mono ?_)
  rintro e w1 ⟨rfl, hB1⟩
  have HX1 := Lib.hid (HX.out.keep _ _ hB1)
  clear j0 j1 hB1 HX HS
  go_upto_region 2 with fail
  refine wp_region_flow_store2 4 [9, 10, 11, 12] (fun i => 9 + i) (Rt2 w z z' b1 b2 A1 A2 m1 c1 m2 c2) (RtS w p q) (fun v wx => RtF w wx ∧ BP wx w.heap.size p ∧ PV wx (v 12) q) (Sql [.pint z, .pint p, .pint z', .pint q]) (by kernel_rfl) (by kernel_rfl) (by kernel_rfl) (by kernel_rfl) (by kernel_rfl) (by kernel_rfl) (fun i j _ _ h => Nat.add_left_cancel (show 9 + i = 9 + j from h)) (by decide) Rt2.keep Sql.keep ?_ ?_ ?_ ?_ ?_
  · exact HX1.out.keep _ _ (Below.drew (Below.refl _ _))
  · intro i v wx o T' K hi ho hF hdep hin hout hK
    have q9 := hin 9 (by decide)
    have q10 := hin 10 (by decide)
    have q11 := hin 11 (by decide)
    have q12 := hin 12 (by decide)
    have sl2 : T'[2]? = some (.pointer (some ⟨w.heap.size, 0, none⟩)) := (hout 2 (by decide)).trans rfl
    have sl3 : T'[3]? = some (.pointer (some ⟨w.heap.size + 1, 0, none⟩)) := (hout 3 (by decide)).trans rfl
    clear hin hout
    have HF := Lib.hid hF
    have HD := Lib.hid hdep
    clear hF hdep
    rcases (by omega : i = 0 ∨ i = 1 ∨ i = 2 ∨ i = 3) with rfl | rfl | rfl | rfl
    · obtain rfl := Option.some.inj ho
      obtain ⟨k0, k1, k2⟩ := HF.out.bp
      have hP := HF.out.rp
      clear q9 q10 q11 q12 sl3 ho hi
      go_simp
      exact hK _ _ (Below.refl _ _) hP
    · obtain rfl := Option.some.inj ho
      have h0 : PV wx (v 9) z := HD.out ⟨0, .data⟩ (by simp) rfl
      clear q10 q11 q12 sl2 sl3 ho hi
      go_simp
      (with_reducible refine (HNp.out _ _ h0).mono ?_)
      rintro e w2 ⟨u, rfl, hu, hB⟩
      exact hK _ _ hB hu
    · obtain rfl := Option.some.inj ho
      obtain ⟨k0, k1, k2⟩ := HF.out.bq
      have hP := HF.out.rq
      clear q9 q10 q11 q12 sl2 ho hi
      go_simp
      exact hK _ _ (Below.refl _ _) hP
    · obtain rfl := Option.some.inj ho
      have h0 : PV wx (v 11) z' := HD.out ⟨2, .data⟩ (by simp) rfl
      clear q9 q10 q12 sl2 sl3 ho hi
      go_simp
      (with_reducible refine (HNq.out _ _ h0).mono ?_)
      rintro e w2 ⟨u, rfl, hu, hB⟩
      exact hK _ _ hB hu
  · intro v wx o T' K ho hF hall hin hout hK
    obtain rfl := Option.some.inj ho
    have sl2 : T'[2]? = some (.pointer (some ⟨w.heap.size, 0, none⟩)) := (hout 2 (by decide)).trans rfl
    have q10 := hin 10 (by decide)
    clear hin hout ho
    have h0 : PV wx (v 10) p := hall 1 (by decide)
    have h1 : PV wx (v 12) q := hall 3 (by decide)
    obtain ⟨b5, A5, m5, c5, e5, h5, d5⟩ := h0
    rw [e5] at q10
    have HRR : Hid (RtF w (st2 wx w.heap.size (.bool b5) (.slice A5 m5 c5)) ∧ BP (st2 wx w.heap.size (.bool b5) (.slice A5 m5 c5)) w.heap.size p ∧ PV (st2 wx w.heap.size (.bool b5) (.slice A5 m5 c5)) (v 12) q) := ⟨hF.fr.set_a _ _, BP.put hF.fr.wa ⟨b5, A5, m5, c5, rfl, h5, d5⟩, h1.st2 hF.fr.wa _ _⟩
    obtain ⟨⟨o0, o1, o2, o3⟩, o4, o5, -⟩ := hF.fr.wa
    clear e5 h5 d5 h1 hF hall
    go_simp
    exact hK _ HRR.out
  · intro v wx o T' K ho hM hin hout hK
    obtain rfl := Option.some.inj ho
    have sl3 : T'[3]? = some (.pointer (some ⟨w.heap.size + 1, 0, none⟩)) := (hout 3 (by decide)).trans rfl
    have q12 := hin 12 (by decide)
    clear hin hout ho
    obtain ⟨hF, hbp, h1⟩ := hM
    obtain ⟨b5, A5, m5, c5, e5, h5, d5⟩ := h1
    rw [e5] at q12
    have HRR : Hid (RtS w p q (st2 wx (w.heap.size + 1) (.bool b5) (.slice A5 m5 c5))) := ⟨hF.set_b _ _, hbp.st2 (by omega) hF.wb _ _, BP.put hF.wb ⟨b5, A5, m5, c5, rfl, h5, d5⟩⟩
    obtain ⟨⟨o0, o1, o2, o3⟩, o4, o5, -⟩ := hF.wb
    clear e5 h5 d5 hbp hF
    go_simp
    exact hK _ HRR.out
  · intro v wx hE
    have HY : Hid (RtS w p q wx) := hE
    clear hE
    simp only [over, List.setIfInBounds_toArray, List.set_cons_zero, List.set_cons_succ]
    generalize v 9 = v9
    generalize v 10 = v10
    generalize v 11 = v11
    generalize v 12 = v12
    clear HX1 HNp HNq
    revert HY
    generalize wx = Y
    intro HY
    go_upto_region 3 with fail
    obtain ⟨b3, A3, m3, c3, hb3, hp3⟩ := HY.out.ba
    obtain ⟨b4, A4, m4, c4, hb4, hp4⟩ := HY.out.bb
    have HB3 := Lib.hid hb3
    have HB4 := Lib.hid hb4
    have HP3 := Lib.hid hp3
    have HP4 := Lib.hid hp4
    clear hb3 hb4 hp3 hp4
    obtain ⟨k0, k1, -⟩ := HB3.out
    obtain ⟨j0, j1, -⟩ := HB4.out
    go_wp2_with fail
    (with_reducible refine (HG.out _ _ _ HP3.out HP4.out).mono ?_)
    rintro e w4 ⟨u, rfl, hu, hB4⟩
    obtain ⟨b5, A5, m5, c5, rfl, hb5, hD5⟩ := hu
    have HP5 : Hid (PV w4 (.agg #[.bool b5, .slice A5 m5 c5]) g) := ⟨b5, A5, m5, c5, rfl, hb5, hD5⟩
    have H4 := Lib.hid hB4
    clear k0 k1 j0 j1 hb5 hD5 hB4
    go_upto_region 4 with fail
    generalize hZ : w4.alloc _ = Z
    have HZ : Hid (Rt4 w w4.heap.size p q g b3 b4 b5 A3 A4 A5 m3 c3 m4 c4 m5 c5 Z) := by
      have hB : Below w4.heap.size w4 Z := by subst hZ; exact below_alloc _ _
      exact ⟨(HY.out.fr.keep H4.out).keep hB, (HB3.out.keep H4.out).keep hB, (HB4.out.keep H4.out).keep hB, by subst hZ; simp [B2n, go_sem], (HP3.out.keep H4.out).keep hB, (HP4.out.keep H4.out).keep hB, HP5.out.keep hB⟩
    clear hZ HB3 HB4 HP3 HP4 HP5 H4 HY HG
    generalize w4.heap.size = gc at HZ ⊢
    clear w4
    refine wp_region_flow_store 7 [16, 17, 18, 19, 20, 21, 22] (fun i => 16 + i) (Rt4 w gc p q g b3 b4 b5 A3 A4 A5 m3 c3 m4 c4 m5 c5) (EndQ w (w.heap.size + 1 + 1) x) (Sql [.pint p, .pint g, .pint x.num, .pint q, .pint g, .pint (x.den : Int), .prat x]) (by kernel_rfl) (by kernel_rfl) (by kernel_rfl) (by kernel_rfl) (by kernel_rfl) (fun i j _ _ h => Nat.add_left_cancel (show 16 + i = 16 + j from h)) (by decide) Rt4.keep Sql.keep ?_ ?_ ?_ ?_
    · exact HZ.out.keep _ _ (Below.drew (Below.refl _ _))
    · intro i v wx o T' K hi ho hF hdep hin hout hK
      have q16 := hin 16 (by decide)
      have q17 := hin 17 (by decide)
      have q18 := hin 18 (by decide)
      have q19 := hin 19 (by decide)
      have q20 := hin 20 (by decide)
      have q21 := hin 21 (by decide)
      have q22 := hin 22 (by decide)
      have sl2 : T'[2]? = some (.pointer (some ⟨w.heap.size, 0, none⟩)) := (hout 2 (by decide)).trans rfl
      have sl3 : T'[3]? = some (.pointer (some ⟨w.heap.size + 1, 0, none⟩)) := (hout 3 (by decide)).trans rfl
      have sl4 : T'[4]? = some (.pointer (some ⟨w.heap.size + 1 + 1, 0, none⟩)) := (hout 4 (by decide)).trans rfl
      have sl5 : T'[5]? = some (.pointer (some ⟨gc, 0, none⟩)) := (hout 5 (by decide)).trans rfl
      clear hin hout
      have HF := Lib.hid hF
      have HD := Lib.hid hdep
      clear hF hdep
      rcases (by omega : i = 0 ∨ i = 1 ∨ i = 2 ∨ i = 3 ∨ i = 4 ∨ i = 5 ∨ i = 6) with rfl | rfl | rfl | rfl | rfl | rfl | rfl
      · obtain rfl := Option.some.inj ho
        obtain ⟨k0, k1, k2⟩ := HF.out.bp
        have hP := HF.out.rp
        clear q16 q17 q18 q19 q20 q21 q22 sl3 sl4 sl5 ho hi
        go_simp
        exact hK _ _ (Below.refl _ _) hP
      · obtain rfl := Option.some.inj ho
        obtain ⟨k0, k1, k2⟩ := HF.out.bg
        have hP := HF.out.rg
        clear q16 q17 q18 q19 q20 q21 q22 sl2 sl3 sl4 ho hi
        go_simp
        exact hK _ _ (Below.refl _ _) hP
      · obtain rfl := Option.some.inj ho
        have h0 : PV wx (v 16) p := HD.out ⟨0, .data⟩ (by simp) rfl
        have h1 : PV wx (v 17) g := HD.out ⟨1, .data⟩ (by simp) rfl
        clear q18 q19 q20 q21 q22 sl2 sl3 sl4 sl5 ho hi
        go_simp
        (with_reducible refine (HO1.out _ _ _ h0 h1).mono ?_)
        rintro e w2 ⟨u, rfl, hu, hB⟩
        exact hK _ _ hB hu
      · obtain rfl := Option.some.inj ho
        obtain ⟨k0, k1, k2⟩ := HF.out.bq
        have hP := HF.out.rq
        clear q16 q17 q18 q19 q20 q21 q22 sl2 sl4 sl5 ho hi
        go_simp
        exact hK _ _ (Below.refl _ _) hP
      · obtain rfl := Option.some.inj ho
        obtain ⟨k0, k1, k2⟩ := HF.out.bg
        have hP := HF.out.rg
        clear q16 q17 q18 q19 q20 q21 q22 sl2 sl3 sl4 ho hi
        go_simp
        exact hK _ _ (Below.refl _ _) hP
      · obtain rfl := Option.some.inj ho
        have h0 : PV wx (v 19) q := HD.out ⟨3, .data⟩ (by simp) rfl
        have h1 : PV wx (v 20) g := HD.out ⟨4, .data⟩ (by simp) rfl
        clear q16 q17 q18 q21 q22 sl2 sl3 sl4 sl5 ho hi
        go_simp
        (with_reducible refine (HO2.out _ _ _ h0 h1).mono ?_)
        rintro e w2 ⟨u, rfl, hu, hB⟩
        exact hK _ _ hB hu
      · obtain rfl := Option.some.inj ho
        have e0 : PV wx (v 18) x.num := HD.out ⟨2, .data⟩ (by simp) rfl
        have e1 : PV wx (v 21) (x.den : Int) := HD.out ⟨5, .data⟩ (by simp) rfl
        obtain ⟨b6, A6, m6, c6, g6, h6, d6⟩ := e0
        obtain ⟨b7, A7, m7, c7, g7, h7, d7⟩ := e1
        have e7 : b7 = false := by rw [h7.out]; exact decide_eq_false (by omega)
        rw [g6] at q18
        rw [g7, e7] at q21
        have HW : Hid (QV wx (.agg #[.bool b6, .slice A6 m6 c6, .bool false, .slice A7 m7 c7]) x) := ⟨b6, A6, m6, c6, A7, m7, c7, rfl, h6.out, d6, by rw [Int.natAbs_natCast] at d7; exact d7⟩
        clear g6 g7 h6 h7 d6 d7 e7
        clear q16 q17 q19 q20 q22 sl2 sl3 sl4 sl5 ho hi
        go_simp
        exact hK _ _ (Below.refl _ _) HW.out
    · intro v wx o T' K ho hF hall hin hout hK
      obtain rfl := Option.some.inj ho
      have sl4 : T'[4]? = some (.pointer (some ⟨w.heap.size + 1 + 1, 0, none⟩)) := (hout 4 (by decide)).trans rfl
      have q22 := hin 22 (by decide)
      have h0 : QV wx (v 22) x := hall 6 (by decide)
      clear hin hout hall ho
      obtain ⟨b6, A6, m6, c6, A7, m7, c7, e5, h5⟩ := h0
      rw [e5] at q22
      have HR := Lib.hid (endQ_store hF.fr.below (show w.heap.size ≤ w.heap.size + 1 + 1 by omega) hF.fr.wc h5)
      obtain ⟨⟨o0, o1, o2, o3, p0, p1, p2, p3⟩, f0, f1, f2, f3, -⟩ := hF.fr.wc
      clear e5 h5 hF
      go_simp
      exact hK _ HR.out
    · intro v wx hE
      obtain ⟨b6, A6, m6, c6, A7, m7, c7, ⟨k0, k1, k2, k3⟩, hQ, hB⟩ := hE
      have HQ := Lib.hid hQ
      have HB := Lib.hid hB
      clear hQ hB
      simp only [over, List.setIfInBounds_toArray, List.set_cons_zero, List.set_cons_succ]
      generalize v 16 = v16
      generalize v 17 = v17
      generalize v 18 = v18
      generalize v 19 = v19
      generalize v 20 = v20
      generalize v 21 = v21
      generalize v 22 = v22
      go_wp2_with fail
      exact bodyPost_ret (v := .agg #[.bool b6, .slice A6 m6 c6, .bool false, .slice A7 m7 c7]) (by simp [results, Tryz.results19, go_sem, k0, k1, k2, k3]) rfl ⟨_, rfl, ⟨b6, A6, m6, c6, A7, m7, c7, rfl, HQ.out⟩, HB.out⟩

set_option maxRecDepth 100000 in
set_option maxHeartbeats 20000000 in
theorem ratio_pos (z z' p q g s2 : Int) (b1 b2 : Bool) (A1 A2 : Option Addr) (m1 c1 m2 c2 : Nat) (x : Rat) (w : World) (g0 : decide (s2 < 0) = false)
    (H1 : Hid (PV w (.agg #[.bool b1, .slice A1 m1 c1]) z)) (H2 : Hid (PV w (.agg #[.bool b2, .slice A2 m2 c2]) z'))
    (HS : Hid (∀ wx, Calls Tryz.prog 48 #[.agg #[.bool b2, .slice A2 m2 c2]] wx fun e w' => e = .returned (.int .i64 s2) ∧ Below wx.heap.size wx w'))
    (hpq : Hid (p = z ∧ q = z'))
    (HG : Hid (∀ wx u u', PV wx u p → PV wx u' q → Calls Tryz.prog 50 #[u, u'] wx (RetW (.pint g) wx)))
    (HO1 : Hid (∀ wx u u', PV wx u p → PV wx u' g → Calls Tryz.prog 51 #[u, u'] wx (RetW (.pint x.num) wx)))
    (HO2 : Hid (∀ wx u u', PV wx u q → PV wx u' g → Calls Tryz.prog 51 #[u, u'] wx (RetW (.pint (x.den : Int)) wx)))
    :
    Calls Tryz.prog 19 #[.agg #[.bool b1, .slice A1 m1 c1], .agg #[.bool b2, .slice A2 m2 c2]] w (RetW (.prat x) w) := by
  go_enter Tryz.func19, Tryz.ntmps19
  go_upto_region 1 with fail
  generalize hX : ((w.alloc _).alloc _).alloc _ = X
  have HX : Hid (Rt2 w z z' b1 b2 A1 A2 m1 c1 m2 c2 X) := by
    have hB : Below w.heap.size w X := by subst hX; exact (((Below.refl _ _).alloc (Nat.le_refl _) _).alloc (by simp) _).alloc (by simp; omega) _
    refine ⟨⟨hB, ?_, ?_, ?_⟩, ?_, ?_, H1.out.keep hB, H2.out.keep hB⟩
    · subst hX; exact ((Wr.new w _ _ _ rfl).keep (below_alloc _ _)).keep (below_alloc _ _)
    · subst hX; exact (Wr.new _ _ _ _ (by simp)).keep (below_alloc _ _)
    · subst hX; exact Wr4.new _ _ _ _ _ _ (by simp)
    · subst hX; simp [B2n, go_sem]
    · subst hX; simp [B2n, go_sem]
  clear hX H1 H2
  obtain ⟨j0, j1, -⟩ := HX.out.bq
  go_wp2_with fail
  (with_reducible refine (HS.out _).mono ?_)
  rintro e w1 ⟨rfl, hB1⟩
  have HX1 := Lib.hid (HX.out.keep _ _ hB1)
  clear j0 j1 hB1 HX HS
  have HY : Hid (RtS w p q w1) := by
    obtain ⟨rfl, rfl⟩ := hpq.out
    exact ⟨HX1.out.fr, ⟨b1, A1, m1, c1, HX1.out.bp, HX1.out.rp⟩, ⟨b2, A2, m2, c2, HX1.out.bq, HX1.out.rq⟩⟩
  clear HX1 hpq
  revert HY
  generalize w1 = Y
  intro HY
  go_upto_region 3 with fail
  obtain ⟨b3, A3, m3, c3, hb3, hp3⟩ := HY.out.ba
  obtain ⟨b4, A4, m4, c4, hb4, hp4⟩ := HY.out.bb
  have HB3 := Lib.hid hb3
  have HB4 := Lib.hid hb4
  have HP3 := Lib.hid hp3
  have HP4 := Lib.hid hp4
  clear hb3 hb4 hp3 hp4
  obtain ⟨k0, k1, -⟩ := HB3.out
  obtain ⟨j0, j1, -⟩ := HB4.out
  go_wp2_with fail
  (with_reducible refine (HG.out _ _ _ HP3.out HP4.out).mono ?_)
  rintro e w4 ⟨u, rfl, hu, hB4⟩
  obtain ⟨b5, A5, m5, c5, rfl, hb5, hD5⟩ := hu
  have HP5 : Hid (PV w4 (.agg #[.bool b5, .slice A5 m5 c5]) g) := ⟨b5, A5, m5, c5, rfl, hb5, hD5⟩
  have H4 := Lib.hid hB4
  clear k0 k1 j0 j1 hb5 hD5 hB4
  go_upto_region 4 with fail
  generalize hZ : w4.alloc _ = Z
  have HZ : Hid (Rt4 w w4.heap.size p q g b3 b4 b5 A3 A4 A5 m3 c3 m4 c4 m5 c5 Z) := by
    have hB : Below w4.heap.size w4 Z := by subst hZ; exact below_alloc _ _
    exact ⟨(HY.out.fr.keep H4.out).keep hB, (HB3.out.keep H4.out).keep hB, (HB4.out.keep H4.out).keep hB, by subst hZ; simp [B2n, go_sem], (HP3.out.keep H4.out).keep hB, (HP4.out.keep H4.out).keep hB, HP5.out.keep hB⟩
  clear hZ HB3 HB4 HP3 HP4 HP5 H4 HY HG
  generalize w4.heap.size = gc at HZ ⊢
  clear w4
  refine wp_region_flow_store 7 [16, 17, 18, 19, 20, 21, 22] (fun i => 16 + i) (Rt4 w gc p q g b3 b4 b5 A3 A4 A5 m3 c3 m4 c4 m5 c5) (EndQ w (w.heap.size + 1 + 1) x) (Sql [.pint p, .pint g, .pint x.num, .pint q, .pint g, .pint (x.den : Int), .prat x]) (by kernel_rfl) (by kernel_rfl) (by kernel_rfl) (by kernel_rfl) (by kernel_rfl) (fun i j _ _ h => Nat.add_left_cancel (show 16 + i = 16 + j from h)) (by decide) Rt4.keep Sql.keep ?_ ?_ ?_ ?_
  · exact HZ.out.keep _ _ (Below.drew (Below.refl _ _))
  · intro i v wx o T' K hi ho hF hdep hin hout hK
    have q16 := hin 16 (by decide)
    have q17 := hin 17 (by decide)
    have q18 := hin 18 (by decide)
    have q19 := hin 19 (by decide)
    have q20 := hin 20 (by decide)
    have q21 := hin 21 (by decide)
    have q22 := hin 22 (by decide)
    have sl2 : T'[2]? = some (.pointer (some ⟨w.heap.size, 0, none⟩)) := (hout 2 (by decide)).trans rfl
    have sl3 : T'[3]? = some (.pointer (some ⟨w.heap.size + 1, 0, none⟩)) := (hout 3 (by decide)).trans rfl
    have sl4 : T'[4]? = some (.pointer (some ⟨w.heap.size + 1 + 1, 0, none⟩)) := (hout 4 (by decide)).trans rfl
    have sl5 : T'[5]? = some (.pointer (some ⟨gc, 0, none⟩)) := (hout 5 (by decide)).trans rfl
    clear hin hout
    have HF := Lib.hid hF
    have HD := Lib.hid hdep
    clear hF hdep
    rcases (by omega : i = 0 ∨ i = 1 ∨ i = 2 ∨ i = 3 ∨ i = 4 ∨ i = 5 ∨ i = 6) with rfl | rfl | rfl | rfl | rfl | rfl | rfl
    · obtain rfl := Option.some.inj ho
      obtain ⟨k0, k1, k2⟩ := HF.out.bp
      have hP := HF.out.rp
      clear q16 q17 q18 q19 q20 q21 q22 sl3 sl4 sl5 ho hi
      go_simp
      exact hK _ _ (Below.refl _ _) hP
    · obtain rfl := Option.some.inj ho
      obtain ⟨k0, k1, k2⟩ := HF.out.bg
      have hP := HF.out.rg
      clear q16 q17 q18 q19 q20 q21 q22 sl2 sl3 sl4 ho hi
      go_simp
      exact hK _ _ (Below.refl _ _) hP
    · obtain rfl := Option.some.inj ho
      have h0 : PV wx (v 16) p := HD.out ⟨0, .data⟩ (by simp) rfl
      have h1 : PV wx (v 17) g := HD.out ⟨1, .data⟩ (by simp) rfl
      clear q18 q19 q20 q21 q22 sl2 sl3 sl4 sl5 ho hi
      go_simp
      (with_reducible refine (HO1.out _ _ _ h0 h1).mono ?_)
      rintro e w2 ⟨u, rfl, hu, hB⟩
      exact hK _ _ hB hu
    · obtain rfl := Option.some.inj ho
      obtain ⟨k0, k1, k2⟩ := HF.out.bq
      have hP := HF.out.rq
      clear q16 q17 q18 q19 q20 q21 q22 sl2 sl4 sl5 ho hi
      go_simp
      exact hK _ _ (Below.refl _ _) hP
    · obtain rfl := Option.some.inj ho
      obtain ⟨k0, k1, k2⟩ := HF.out.bg
      have hP := HF.out.rg
      clear q16 q17 q18 q19 q20 q21 q22 sl2 sl3 sl4 ho hi
      go_simp
      exact hK _ _ (Below.refl _ _) hP
    · obtain rfl := Option.some.inj ho
      have h0 : PV wx (v 19) q := HD.out ⟨3, .data⟩ (by simp) rfl
      have h1 : PV wx (v 20) g := HD.out ⟨4, .data⟩ (by simp) rfl
      clear q16 q17 q18 q21 q22 sl2 sl3 sl4 sl5 ho hi
      go_simp
      (with_reducible refine (HO2.out _ _ _ h0 h1).mono ?_)
      rintro e w2 ⟨u, rfl, hu, hB⟩
      exact hK _ _ hB hu
    · obtain rfl := Option.some.inj ho
      have e0 : PV wx (v 18) x.num := HD.out ⟨2, .data⟩ (by simp) rfl
      have e1 : PV wx (v 21) (x.den : Int) := HD.out ⟨5, .data⟩ (by simp) rfl
      obtain ⟨b6, A6, m6, c6, g6, h6, d6⟩ := e0
      obtain ⟨b7, A7, m7, c7, g7, h7, d7⟩ := e1
      have e7 : b7 = false := by rw [h7.out]; exact decide_eq_false (by omega)
      rw [g6] at q18
      rw [g7, e7] at q21
      have HW : Hid (QV wx (.agg #[.bool b6, .slice A6 m6 c6, .bool false, .slice A7 m7 c7]) x) := ⟨b6, A6, m6, c6, A7, m7, c7, rfl, h6.out, d6, by rw [Int.natAbs_natCast] at d7; exact d7⟩
      clear g6 g7 h6 h7 d6 d7 e7
      clear q16 q17 q19 q20 q22 sl2 sl3 sl4 sl5 ho hi
      go_simp
      exact hK _ _ (Below.refl _ _) HW.out
  · intro v wx o T' K ho hF hall hin hout hK
    obtain rfl := Option.some.inj ho
    have sl4 : T'[4]? = some (.pointer (some ⟨w.heap.size + 1 + 1, 0, none⟩)) := (hout 4 (by decide)).trans rfl
    have q22 := hin 22 (by decide)
    have h0 : QV wx (v 22) x := hall 6 (by decide)
    clear hin hout hall ho
    obtain ⟨b6, A6, m6, c6, A7, m7, c7, e5, h5⟩ := h0
    rw [e5] at q22
    have HR := Lib.hid (endQ_store hF.fr.below (show w.heap.size ≤ w.heap.size + 1 + 1 by omega) hF.fr.wc h5)
    obtain ⟨⟨o0, o1, o2, o3, p0, p1, p2, p3⟩, f0, f1, f2, f3, -⟩ := hF.fr.wc
    clear e5 h5 hF
    go_simp
    exact hK _ HR.out
  · intro v wx hE
    obtain ⟨b6, A6, m6, c6, A7, m7, c7, ⟨k0, k1, k2, k3⟩, hQ, hB⟩ := hE
    have HQ := Lib.hid hQ
    have HB := Lib.hid hB
    clear hQ hB
    simp only [over, List.setIfInBounds_toArray, List.set_cons_zero, List.set_cons_succ]
    generalize v 16 = v16
    generalize v 17 = v17
    generalize v 18 = v18
    generalize v 19 = v19
    generalize v 20 = v20
    generalize v 21 = v21
    generalize v 22 = v22
    go_wp2_with fail
    exact bodyPost_ret (v := .agg #[.bool b6, .slice A6 m6 c6, .bool false, .slice A7 m7 c7]) (by simp [results, Tryz.results19, go_sem, k0, k1, k2, k3]) rfl ⟨_, rfl, ⟨b6, A6, m6, c6, A7, m7, c7, rfl, HQ.out⟩, HB.out⟩

theorem pratio {u u' : Value} {z z' : Int} {w : World} (h : PV w u z) (h' : PV w u' z') (h0 : z' ≠ 0) (hz : z.natAbs < 18446744073709551616) (hz' : z'.natAbs < 18446744073709551616) :
    Calls Tryz.prog 19 #[u, u'] w (RetW (.prat (qt z z')) w) := by
  obtain ⟨b1, A1, m1, c1, rfl, hb1, hD1⟩ := h
  obtain ⟨b2, A2, m2, c2, rfl, hb2, hD2⟩ := h'
  have e3 : W ^ 3 = 79228162514264337593543950336 := by rw [W_eq]
  have hm : m2 ≤ 3 := hD2.len (by omega)
  obtain ⟨p, hp⟩ : ∃ p, (if z' < 0 then -z else z) = p := ⟨_, rfl⟩
  obtain ⟨q, hq⟩ : ∃ q, (if z' < 0 then -z' else z') = q := ⟨_, rfl⟩
  have hpn : p.natAbs = z.natAbs := by rw [← hp]; split <;> simp
  have hqn : q.natAbs = z'.natAbs := by rw [← hq]; split <;> simp
  obtain ⟨e1, e2⟩ := qt_parts z z' h0
  rw [hp] at e1
  rw [hq] at e2
  have hG0 : 0 < Nat.gcd z.natAbs z'.natAbs := Nat.gcd_pos_of_pos_right _ (by omega)
  have HG : Hid (∀ wx u u', PV wx u p → PV wx u' q → Calls Tryz.prog 50 #[u, u'] wx (RetW (.pint (Nat.gcd z.natAbs z'.natAbs : Nat)) wx)) := fun wx u u' k1 k2 => by
    have := pv_divisor k1 k2 (by omega) (by omega) (Or.inl (by omega))
    rw [hpn, hqn] at this
    exact this
  have HO1 : Hid (∀ wx u u', PV wx u p → PV wx u' (Nat.gcd z.natAbs z'.natAbs : Nat) → Calls Tryz.prog 51 #[u, u'] wx (RetW (.pint (qt z z').num) wx)) := fun wx u u' k1 k2 => by
    rw [← e1]
    exact pv_over k1 k2 (by omega) hG0
  have HO2 : Hid (∀ wx u u', PV wx u q → PV wx u' (Nat.gcd z.natAbs z'.natAbs : Nat) → Calls Tryz.prog 51 #[u, u'] wx (RetW (.pint ((qt z z').den : Int)) wx)) := fun wx u u' k1 k2 => by
    rw [← e2]
    exact pv_over k1 k2 (by omega) hG0
  have HS : Hid (∀ wx, Calls Tryz.prog 48 #[.agg #[.bool b2, .slice A2 m2 c2]] wx fun e w' => e = .returned (.int .i64 (sg b2 m2)) ∧ Below wx.heap.size wx w') := fun wx => signI_any b2 A2 m2 c2 wx (by omega)
  have hs : decide (sg b2 m2 < 0) = decide (z' < 0) := by
    rw [← hb2.out]
    unfold sg
    cases b2
    · by_cases hm0 : m2 = 0
      · simp [hm0]
      · simp [hm0]
    · simp
  by_cases hneg : z' < 0
  · rw [decide_eq_true hneg] at hs
    rw [if_pos hneg] at hp hq
    refine ratio_neg z z' p q _ _ b1 b2 A1 A2 m1 c1 m2 c2 _ w hs ⟨b1, A1, m1, c1, rfl, hb1, hD1⟩ ⟨b2, A2, m2, c2, rfl, hb2, hD2⟩ HS (fun wx u k => ?_) (fun wx u k => ?_) HG HO1 HO2
    · rw [← hp]
      exact pv_neg k (by omega)
    · rw [← hq]
      exact pv_neg k (by omega)
  · rw [decide_eq_false hneg] at hs
    rw [if_neg hneg] at hp hq
    exact ratio_pos z z' p q _ _ b1 b2 A1 A2 m1 c1 m2 c2 _ w hs ⟨b1, A1, m1, c1, rfl, hb1, hD1⟩ ⟨b2, A2, m2, c2, rfl, hb2, hD2⟩ HS ⟨hp.symm, hq.symm⟩ HG HO1 HO2

end Go.Proofs.YtfhmhkbjcccejaaGreatDoor

namespace Go.Proofs.YtfhmhkbjcccejaaGreatDoor
open Go.RowKit

theorem pv_negL {u : Value} {z : Int} {w : World} (h : PV w u z) (hz : z.natAbs < W ^ 1000) : Calls Tryz.prog 49 #[u] w (RetW (.pint (-z)) w) := by
  obtain ⟨b, A, n, c, rfl, hb, h1⟩ := h
  have := neg_any b A n c _ w h1 (by have := h1.len hz; omega)
  rw [hb.out, sgn_not] at this
  rw [hb.out]
  exact this.mono fun _ _ => RetJ.w
theorem pv_divisorL {u u' : Value} {z z' : Int} {w : World} (h : PV w u z) (h' : PV w u' z') (hz : z.natAbs < W ^ 1000) (hz' : z'.natAbs < W ^ 1000) :
    Calls Tryz.prog 50 #[u, u'] w (RetW (.pint (Nat.gcd z.natAbs z'.natAbs : Nat)) w) := by
  obtain ⟨b, A, n, c, rfl, -, h1⟩ := h
  obtain ⟨b', A', n', c', rfl, -, h2⟩ := h'
  exact (divisorI_all b b' A A' n n' c c' _ _ w h1 h2 (by have := h1.len hz; omega) (by have := h2.len hz'; omega)).mono fun _ _ => RetJ.w
theorem pv_overL {u u' : Value} {z : Int} {G : Nat} {w : World} (h : PV w u z) (h' : PV w u' (G : Int)) (hz : z.natAbs < W ^ 1000) (hG : 0 < G) : Calls Tryz.prog 51 #[u, u'] w (RetW (.pint (z.tdiv (G : Int))) w) := by
  obtain ⟨b, A, n, c, rfl, hb, h1⟩ := h
  obtain ⟨b', A', n', c', rfl, hb', h2⟩ := h'
  have e : b' = false := by rw [hb'.out]; exact decide_eq_false (by omega)
  rw [e]
  rw [Int.natAbs_natCast] at h2
  have := over_any b A A' n n' c c' _ _ w h1 h2 (by have := h1.len hz; omega) hG (by rw [hb.out, sgn_self])
  rw [hb.out, sgn_tdiv] at this
  rw [hb.out]
  exact this.mono fun _ _ => RetJ.w
theorem qv_numL {u : Value} {x : Rat} {w : World} (h : QV w u x) (hx : x.num.natAbs < W ^ 1000 ∧ x.den < W ^ 1000) : Calls Tryz.prog 22 #[u] w (Rt (outT x).1 (outT x).2.1 (outT x).2.2 w) := by
  obtain ⟨b, A, n, c, B, m, d, rfl, hQ⟩ := h
  have := num_any b A B n c m d x w hQ (by have := hQ.2.1.len hx.1; omega) (by have := hQ.2.2.len hx.2; omega)
  rw [outN_val] at this
  exact this


theorem pratioL {u u' : Value} {z z' : Int} {w : World} (h : PV w u z) (h' : PV w u' z') (h0 : z' ≠ 0) (hz : z.natAbs < W ^ 1000) (hz' : z'.natAbs < W ^ 1000) :
    Calls Tryz.prog 19 #[u, u'] w (RetW (.prat (qt z z')) w) := by
  obtain ⟨b1, A1, m1, c1, rfl, hb1, hD1⟩ := h
  obtain ⟨b2, A2, m2, c2, rfl, hb2, hD2⟩ := h'
  have hm : m2 ≤ 1000 := hD2.len hz'
  obtain ⟨p, hp⟩ : ∃ p, (if z' < 0 then -z else z) = p := ⟨_, rfl⟩
  obtain ⟨q, hq⟩ : ∃ q, (if z' < 0 then -z' else z') = q := ⟨_, rfl⟩
  have hpn : p.natAbs = z.natAbs := by rw [← hp]; split <;> simp
  have hqn : q.natAbs = z'.natAbs := by rw [← hq]; split <;> simp
  obtain ⟨e1, e2⟩ := qt_parts z z' h0
  rw [hp] at e1
  rw [hq] at e2
  have hpW : p.natAbs < W ^ 1000 := by rw [hpn]; exact hz
  have hqW : q.natAbs < W ^ 1000 := by rw [hqn]; exact hz'
  have hG0 : 0 < Nat.gcd z.natAbs z'.natAbs := Nat.gcd_pos_of_pos_right _ (by omega)
  have HG : Hid (∀ wx u u', PV wx u p → PV wx u' q → Calls Tryz.prog 50 #[u, u'] wx (RetW (.pint (Nat.gcd z.natAbs z'.natAbs : Nat)) wx)) := fun wx u u' k1 k2 => by
    have := pv_divisorL k1 k2 hpW hqW
    rw [hpn, hqn] at this
    exact this
  have HO1 : Hid (∀ wx u u', PV wx u p → PV wx u' (Nat.gcd z.natAbs z'.natAbs : Nat) → Calls Tryz.prog 51 #[u, u'] wx (RetW (.pint (qt z z').num) wx)) := fun wx u u' k1 k2 => by
    rw [← e1]
    exact pv_overL k1 k2 hpW hG0
  have HO2 : Hid (∀ wx u u', PV wx u q → PV wx u' (Nat.gcd z.natAbs z'.natAbs : Nat) → Calls Tryz.prog 51 #[u, u'] wx (RetW (.pint ((qt z z').den : Int)) wx)) := fun wx u u' k1 k2 => by
    rw [← e2]
    exact pv_overL k1 k2 hqW hG0
  have HS : Hid (∀ wx, Calls Tryz.prog 48 #[.agg #[.bool b2, .slice A2 m2 c2]] wx fun e w' => e = .returned (.int .i64 (sg b2 m2)) ∧ Below wx.heap.size wx w') := fun wx => signI_any b2 A2 m2 c2 wx (by omega)
  have hs : decide (sg b2 m2 < 0) = decide (z' < 0) := by
    rw [← hb2.out]
    unfold sg
    cases b2
    · by_cases hm0 : m2 = 0
      · simp [hm0]
      · simp [hm0]
    · simp
  by_cases hneg : z' < 0
  · rw [decide_eq_true hneg] at hs
    rw [if_pos hneg] at hp hq
    refine ratio_neg z z' p q _ _ b1 b2 A1 A2 m1 c1 m2 c2 _ w hs ⟨b1, A1, m1, c1, rfl, hb1, hD1⟩ ⟨b2, A2, m2, c2, rfl, hb2, hD2⟩ HS (fun wx u k => ?_) (fun wx u k => ?_) HG HO1 HO2
    · rw [← hp]
      exact pv_negL k hz
    · rw [← hq]
      exact pv_negL k hz'
  · rw [decide_eq_false hneg] at hs
    rw [if_neg hneg] at hp hq
    exact ratio_pos z z' p q _ _ b1 b2 A1 A2 m1 c1 m2 c2 _ w hs ⟨b1, A1, m1, c1, rfl, hb1, hD1⟩ ⟨b2, A2, m2, c2, rfl, hb2, hD2⟩ HS ⟨hp.symm, hq.symm⟩ HG HO1 HO2


end Go.Proofs.YtfhmhkbjcccejaaGreatDoor
