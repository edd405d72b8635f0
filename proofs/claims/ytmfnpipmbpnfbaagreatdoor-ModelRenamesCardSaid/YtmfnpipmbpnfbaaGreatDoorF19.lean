/- Quotient and remainder of integers of the reference in memory: all sizes. -/
import Derived.Test.YtmfnpipmbpnfbaaGreatDoorF18

set_option maxRecDepth 100000
set_option maxHeartbeats 40000000
namespace Go.Proofs.YtmfnpipmbpnfbaaGreatDoor
open Go.RowKit
theorem len_pos {l : List Nat} {x : Nat} (h : val l = x) (hx : 0 < x) : 0 < l.length := by
  rcases l with _ | ⟨d, l⟩
  · simp only [val] at h
    omega
  · simp
theorem rover_big (s s' : Int) (neg neg' : Bool) (A A' : Option Addr) (n c n' c' K : Nat) (z z' : Int) (w : World) (h : RI w s neg A n c z) (h' : RI w s' neg' A' n' c' z') (hK : K ≤ 250000) (hz : z.natAbs < Bs ^ K) (hz' : z'.natAbs < Bs ^ K) (h0 : z' ≠ 0)
    (hg : (((n : Int) == 0) = false) ∨ (((n : Int) == 0) = true ∧ ((n' : Int) == 0) = false)) :
    Calls Tryz.prog 153 #[.agg #[.int .i64 s, .bool neg, .slice A n c], .agg #[.int .i64 s', .bool neg', .slice A' n' c']] w (RetII (z.tdiv z') (z.tmod z') w) := by
  have hn := h.len hz
  have hn' := h'.len hz'
  have HL1 : Hid (∀ wx, Below w.heap.size w wx → Calls Tryz.prog 134 #[.agg #[.int .i64 s, .bool neg, .slice A n c]] wx (RetL (fun l => Nz l ∧ val l = z.natAbs) wx)) := fun wx hb => rlist_any s neg A n c z wx (h.keep hb) (by omega)
  have HL2 : Hid (∀ wx, Below w.heap.size w wx → Calls Tryz.prog 134 #[.agg #[.int .i64 s', .bool neg', .slice A' n' c']] wx (RetL (fun l => Nz l ∧ val l = z'.natAbs) wx)) := fun wx hb => rlist_any s' neg' A' n' c' z' wx (h'.keep hb) (by omega)
  obtain ⟨q1, hq1⟩ : ∃ q1, sgnI z = q1 := ⟨_, rfl⟩
  obtain ⟨q2, hq2⟩ : ∃ q2, sgnI z' = q2 := ⟨_, rfl⟩
  have HS1 : Hid (∀ wx, Below w.heap.size w wx → Calls Tryz.prog 108 #[.agg #[.int .i64 s, .bool neg, .slice A n c]] wx fun e w' => e = .returned (.int .i64 q1) ∧ Below wx.heap.size wx w') := fun wx hb => by
    rw [← hq1]; exact rsign_any s neg A n c z wx (h.keep hb) (by omega)
  have HS2 : Hid (∀ wx, Below w.heap.size w wx → Calls Tryz.prog 108 #[.agg #[.int .i64 s', .bool neg', .slice A' n' c']] wx fun e w' => e = .returned (.int .i64 q2) ∧ Below wx.heap.size wx w') := fun wx hb => by
    rw [← hq2]; exact rsign_any s' neg' A' n' c' z' wx (h'.keep hb) (by omega)
  obtain ⟨b1, hb1⟩ : ∃ b1, (q1 != q2) = b1 := ⟨_, rfl⟩
  obtain ⟨b2, hb2⟩ : ∃ b2, decide (q1 < 0) = b2 := ⟨_, rfl⟩
  obtain ⟨zq, hzq⟩ : ∃ zq, z.tdiv z' = zq := ⟨_, rfl⟩
  obtain ⟨zr, hzr⟩ : ∃ zr, z.tmod z' = zr := ⟨_, rfl⟩
  have HBB : Hid (∀ Q R : Nat, z.natAbs = Q * z'.natAbs + R → R < z'.natAbs → sgz b1 Q = zq ∧ sgz b2 R = zr) := fun Q R e1 e2 => by
    rw [← hb1, ← hb2, ← hq1, ← hq2, ← hzq, ← hzr]
    exact over_sgz h0 e1 e2
  have HZ0 : Hid (0 < z'.natAbs) := (by omega : 0 < z'.natAbs)
  have HB1 := Lib.hid hb1
  have HB2 := Lib.hid hb2
  have HZ1 := Lib.hid hz
  have HZ2 := Lib.hid hz'
  have HK := Lib.hid hK
  rw [hzq, hzr]
  clear h h' hn hn' hq1 hq2 hz hz' hK hb1 hb2 h0 hzq hzr
  go_enter Tryz.func153, Tryz.ntmps153
  go_upto_region 1 with fail
  obtain ⟨X, hX, hwX, hsX, ⟨k0, k1, k2, za⟩, ⟨j0, j1, j2, zb⟩, hW, hW'⟩ := boxesII w (.int .i64 s) (.bool neg) (.slice A n c) (.int .i64 s') (.bool neg') (.slice A' n' c')
  rw [hX]
  clear hX
  have HwX := Lib.hid hwX
  have HW := Lib.hid hW
  have HW' := Lib.hid hW'
  clear hsX hwX hW hW'
  go_cut [17] (fun t wx => t = .bool false ∧ X = wx)
  case first =>
    rcases hg with g1 | ⟨g1, g2⟩
    all_goals go_wp2_with fail
    all_goals go_meet
    all_goals exact ⟨rfl, rfl⟩
  case rest =>
    obtain ⟨rfl, rfl⟩ := hcut
    clear hg
    have HBa : Hid (B3 w.heap.size (.int .i64 s) (.bool neg) (.slice A n c) X) := ⟨k0, k1, k2, za⟩
    have HBb : Hid (B3 (w.heap.size + 1) (.int .i64 s') (.bool neg') (.slice A' n' c') X) := ⟨j0, j1, j2, zb⟩
    go_upto_region 3 with fail
    go_region_held3 (fun w' => w'.cell? ⟨w.heap.size, 0, none⟩ = some (.int .i64 s) ∧ w'.cell? ⟨w.heap.size, 1, none⟩ = some (.bool neg) ∧ w'.cell? ⟨w.heap.size, 2, none⟩ = some (.slice A n c) ∧ w'.cell? ⟨w.heap.size + 1, 0, none⟩ = some (.int .i64 s') ∧ w'.cell? ⟨w.heap.size + 1, 1, none⟩ = some (.bool neg') ∧ w'.cell? ⟨w.heap.size + 1, 2, none⟩ = some (.slice A' n' c')) (simp [go_sem, *])
      (first
        | (go_at_call 134; (with_reducible refine (HL1.out _ (by repeat (first | exact HwX.out | exact HW1.out | refine Below.drew ?_))).mono ?_); rintro e w1 ⟨v1, l1, rfl, hl1, hp1, hB1⟩; obtain ⟨A1, c1, rfl, hlc1, hdl1, hC1⟩ := hl1; (have R1 : Below X.heap.size X w1 := by first | exact hB1 | exact below_undrew' hB1); have C1 := (bcell R1).1; have HR1 := Lib.hid R1; have HW1 := Lib.hid (HwX.out.trans (R1.mono HwX.out.size)); have HC1a := Lib.hid hC1; have HDl1 := Lib.hid hdl1; have HLC1 := Lib.hid hlc1; have HP1 := Lib.hid hp1; clear R1 hC1 hdl1 hlc1 hp1 hB1)
        | (go_at_call 134; (with_reducible refine (HL2.out _ (by repeat (first | exact HwX.out | exact HW1.out | refine Below.drew ?_))).mono ?_); rintro e w2 ⟨v2, l2, rfl, hl2, hp2, hB2⟩; obtain ⟨A2, c2, rfl, hlc2, hdl2, hC2⟩ := hl2; (have R2 : Below w1.heap.size w1 w2 := by first | exact hB2 | exact below_undrew' hB2); have HR2 := Lib.hid (stepB HR1.out R2); have C2 := (bcell HR2.out).1; have HC1 := Lib.hid (HC1a.out.keep R2); have HC2 := Lib.hid hC2; have HDl2 := Lib.hid hdl2; have HP2 := Lib.hid hp2; clear C1 R2 hC2 hdl2 hlc2 hp2 hB2)
        | (go_at_call 190; (with_reducible refine (divided_any A1 A2 l1.length l2.length c1 c2 l1 l2 _ (Nat.le_trans (len_of_val HP1.out.1 HP1.out.2 HZ1.out) HK.out) HLC1.out (len_pos HP2.out.2 HZ0.out) rfl rfl (by first | exact HC1.out | exact Lc.drew HC1.out) (by first | exact HC2.out | exact Lc.drew HC2.out) HDl1.out HDl2.out HP1.out.1 HP2.out.1).mono ?_); rintro e w3 ⟨x, y, lq, lr, rfl, hx, hy, hval, hlt, hlq, hlr, hB3⟩; (have R3 : Below w2.heap.size w2 w3 := by first | exact hB3 | exact below_undrew' hB3); have HR3 := Lib.hid (stepB HR2.out R3); have C3 := (bcell HR3.out).1; have HLX := Lib.hid hx; have HLY := Lib.hid hy; have HV := Lib.hid hval; have HLT := Lib.hid hlt; clear C2 hx hy hval hlt hlq hlr hB3 R3))
    have HZZ := Lib.hid (HBB.out _ _ (by rw [← HP1.out.2, ← HP2.out.2]; exact HV.out) (by rw [← HP2.out.2]; exact HLT.out))
    have HMQ : Hid (∀ wx, Ls wx x lq → Calls Tryz.prog 135 #[.bool b1, x] wx (RetI zq wx)) := fun wx hx => by
      obtain ⟨Aq, cq, ex, hc, hd, hl⟩ := hx
      rw [ex, ← HZZ.out.1]
      exact made_any b1 Aq lq.length cq lq wx rfl hc.1 hc.2 hd hl
    have HMR : Hid (∀ wx, Ls wx y lr → Calls Tryz.prog 135 #[.bool b2, y] wx (RetI zr wx)) := fun wx hx => by
      obtain ⟨Aq, cq, ex, hc, hd, hl⟩ := hx
      rw [ex, ← HZZ.out.2]
      exact made_any b2 Aq lr.length cq lr wx rfl hc.1 hc.2 hd hl
    have HF : Hid (Fix w w.heap.size (.int .i64 s) (.bool neg) (.slice A n c) (.int .i64 s') (.bool neg') (.slice A' n' c') x y lq lr w3) := ⟨HwX.out.trans (HR3.out.mono HwX.out.size), HBa.out.keep HR3.out, HBb.out.keep HR3.out, HW.out.keep HR3.out, HW'.out.keep HR3.out, HLX.out, HLY.out⟩
    clear k0 k1 k2 za j0 j1 j2 zb C3
    clear HBB HZ0 HZ1 HZ2 HK HwX HW HW' HBa HBb HR1 HW1 HC1a HDl1 HLC1 HP1 HR2 HC1 HC2 HDl2 HP2 HR3 HLX HLY HV HLT HZZ HL1 HL2
    go_upto_region 4 with fail
    refine wp_region_inv3 [38, 39, 40, 41, 42, 43, 44, 45, 46, 47, 48, 49] (JO w w.heap.size (.int .i64 s) (.bool neg) (.slice A n c) (.int .i64 s') (.bool neg') (.slice A' n' c') x y lq lr q1 q2 b1 b2 zq zr) (by kernel_rfl) (by kernel_rfl) (by kernel_rfl) ?_ ?_ ?_
    · exact ⟨⟨Below.drew HF.out.below, HF.out.ba, HF.out.bb, HF.out.wq, HF.out.wr, HF.out.lx, HF.out.ly⟩, fun _ h => Bool.noConfusion h⟩
    · intro i b v wx o T' K ho hdep hb hJ hin hout hK hK'
      have hi : i < 14 := (Array.getElem?_eq_some_iff.1 ho).1
      have q38 := hin 38 (by decide)
      have q39 := hin 39 (by decide)
      have q40 := hin 40 (by decide)
      have q41 := hin 41 (by decide)
      have q42 := hin 42 (by decide)
      have q43 := hin 43 (by decide)
      have q44 := hin 44 (by decide)
      have q45 := hin 45 (by decide)
      have q46 := hin 46 (by decide)
      have q47 := hin 47 (by decide)
      have q48 := hin 48 (by decide)
      have q49 := hin 49 (by decide)
      have t2 : T'[2]? = some (.pointer (some ⟨w.heap.size, 0, none⟩)) := (hout 2 (by decide)).trans rfl
      have t3 : T'[3]? = some (.pointer (some ⟨w.heap.size + 1, 0, none⟩)) := (hout 3 (by decide)).trans rfl
      have t4 : T'[4]? = some (.pointer (some ⟨w.heap.size + 1 + 1, 0, none⟩)) := (hout 4 (by decide)).trans rfl
      have t5 : T'[5]? = some (.pointer (some ⟨w.heap.size + 1 + 1 + 1, 0, none⟩)) := (hout 5 (by decide)).trans rfl
      have t6 : T'[6]? = some (x) := (hout 6 (by decide)).trans rfl
      have t7 : T'[7]? = some (y) := (hout 7 (by decide)).trans rfl
      obtain ⟨c0, c1, c2, c3⟩ := hJ.1.ba
      obtain ⟨d0, d1, d2, d3⟩ := hJ.1.bb
      clear hin hout
      have HJ := Lib.hid hJ
      have HX := Lib.hid hJ.1
      have HD := Lib.hid hdep
      clear hJ hdep hb
      rcases (by omega : i = 0 ∨ i = 1 ∨ i = 2 ∨ i = 3 ∨ i = 4 ∨ i = 5 ∨ i = 6 ∨ i = 7 ∨ i = 8 ∨ i = 9 ∨ i = 10 ∨ i = 11 ∨ i = 12 ∨ i = 13) with rfl | rfl | rfl | rfl | rfl | rfl | rfl | rfl | rfl | rfl | rfl | rfl | rfl | rfl
      · obtain rfl := Option.some.inj ho
        clear q38 q39 q40 q41 q42 q43 q44 q45 q46 q47 q48 q49 t3 t4 t5 t6 t7 d0 d1 d2 d3
        clear ho hi
        go_simp
        exact hK 38 _ _ (by decide) (HJ.out.put 0 rfl)
      · obtain rfl := Option.some.inj ho
        clear q39 q40 q41 q42 q43 q44 q45 q46 q47 q48 q49 t2 t3 t4 t5 t6 t7 c0 c1 c2 c3 d0 d1 d2 d3
        rw [show v 38 = .agg #[.int .i64 s, .bool neg, .slice A n c] from HJ.out.2 0 (HD.out ⟨0, .data⟩ (by simp) rfl)] at q38
        clear ho hi
        go_simp
        (with_reducible refine (HS1.out _ HX.out.below).mono ?_)
        rintro e w2 ⟨rfl, hB⟩
        exact hK 39 _ _ (by decide) ((HJ.out.keep hB).put 1 rfl)
      · obtain rfl := Option.some.inj ho
        clear q38 q39 q40 q41 q42 q43 q44 q45 q46 q47 q48 q49 t2 t4 t5 t6 t7 c0 c1 c2 c3
        clear ho hi
        go_simp
        exact hK 40 _ _ (by decide) (HJ.out.put 2 rfl)
      · obtain rfl := Option.some.inj ho
        clear q38 q39 q41 q42 q43 q44 q45 q46 q47 q48 q49 t2 t3 t4 t5 t6 t7 c0 c1 c2 c3 d0 d1 d2 d3
        rw [show v 40 = .agg #[.int .i64 s', .bool neg', .slice A' n' c'] from HJ.out.2 2 (HD.out ⟨2, .data⟩ (by simp) rfl)] at q40
        clear ho hi
        go_simp
        (with_reducible refine (HS2.out _ HX.out.below).mono ?_)
        rintro e w2 ⟨rfl, hB⟩
        exact hK 41 _ _ (by decide) ((HJ.out.keep hB).put 3 rfl)
      · obtain rfl := Option.some.inj ho
        clear q38 q40 q42 q43 q44 q45 q46 q47 q48 q49 t2 t3 t4 t5 t6 t7 c0 c1 c2 c3 d0 d1 d2 d3
        rw [show v 39 = .int .i64 q1 from HJ.out.2 1 (HD.out ⟨1, .data⟩ (by simp) rfl)] at q39
        rw [show v 41 = .int .i64 q2 from HJ.out.2 3 (HD.out ⟨3, .data⟩ (by simp) rfl)] at q41
        clear ho hi
        go_simp
        refine hK 42 _ _ (by decide) (HJ.out.put 4 ?_)
        show _ = Value.bool b1
        rw [← HB1.out]
        try rfl
      · obtain rfl := Option.some.inj ho
        clear q38 q39 q40 q41 q42 q43 q44 q45 q46 q47 q48 q49 t2 t3 t4 t5 t7 c0 c1 c2 c3 d0 d1 d2 d3
        clear ho hi
        go_simp
        exact hK 43 _ _ (by decide) (HJ.out.put 5 rfl)
      · obtain rfl := Option.some.inj ho
        clear q38 q39 q40 q41 q44 q45 q46 q47 q48 q49 t2 t3 t4 t5 t6 t7 c0 c1 c2 c3 d0 d1 d2 d3
        rw [show v 42 = .bool b1 from HJ.out.2 4 (HD.out ⟨4, .data⟩ (by simp) rfl)] at q42
        rw [show v 43 = x from HJ.out.2 5 (HD.out ⟨5, .data⟩ (by simp) rfl)] at q43
        clear ho hi
        go_simp
        (with_reducible refine (HMQ.out _ HX.out.lx).mono ?_)
        rintro e w2 ⟨s2, n2, A2, m2, c2, rfl, hRI, hB⟩
        exact hK 44 _ _ (by decide) ((HJ.out.keep hB).put 6 ⟨s2, n2, A2, m2, c2, rfl, hRI⟩)
      · obtain rfl := Option.some.inj ho
        clear q38 q39 q40 q41 q42 q43 q44 q45 q46 q47 q48 q49 t3 t4 t5 t6 t7 d0 d1 d2 d3
        clear ho hi
        go_simp
        exact hK 45 _ _ (by decide) (HJ.out.put 7 rfl)
      · obtain rfl := Option.some.inj ho
        clear q38 q39 q40 q41 q42 q43 q44 q46 q47 q48 q49 t2 t3 t4 t5 t6 t7 c0 c1 c2 c3 d0 d1 d2 d3
        rw [show v 45 = .agg #[.int .i64 s, .bool neg, .slice A n c] from HJ.out.2 7 (HD.out ⟨7, .data⟩ (by simp) rfl)] at q45
        clear ho hi
        go_simp
        (with_reducible refine (HS1.out _ HX.out.below).mono ?_)
        rintro e w2 ⟨rfl, hB⟩
        exact hK 46 _ _ (by decide) ((HJ.out.keep hB).put 8 rfl)
      · obtain rfl := Option.some.inj ho
        clear q38 q39 q40 q41 q42 q43 q44 q45 q47 q48 q49 t2 t3 t4 t5 t6 t7 c0 c1 c2 c3 d0 d1 d2 d3
        rw [show v 46 = .int .i64 q1 from HJ.out.2 8 (HD.out ⟨8, .data⟩ (by simp) rfl)] at q46
        clear ho hi
        go_simp
        refine hK 47 _ _ (by decide) (HJ.out.put 9 ?_)
        show _ = Value.bool b2
        rw [← HB2.out]
        try rfl
      · obtain rfl := Option.some.inj ho
        clear q38 q39 q40 q41 q42 q43 q44 q45 q46 q47 q48 q49 t2 t3 t4 t5 t6 c0 c1 c2 c3 d0 d1 d2 d3
        clear ho hi
        go_simp
        exact hK 48 _ _ (by decide) (HJ.out.put 10 rfl)
      · obtain rfl := Option.some.inj ho
        clear q38 q39 q40 q41 q42 q43 q44 q45 q46 q49 t2 t3 t4 t5 t6 t7 c0 c1 c2 c3 d0 d1 d2 d3
        rw [show v 47 = .bool b2 from HJ.out.2 9 (HD.out ⟨9, .data⟩ (by simp) rfl)] at q47
        rw [show v 48 = y from HJ.out.2 10 (HD.out ⟨10, .data⟩ (by simp) rfl)] at q48
        clear ho hi
        go_simp
        (with_reducible refine (HMR.out _ HX.out.ly).mono ?_)
        rintro e w2 ⟨s2, n2, A2, m2, c2, rfl, hRI, hB⟩
        exact hK 49 _ _ (by decide) ((HJ.out.keep hB).put 11 ⟨s2, n2, A2, m2, c2, rfl, hRI⟩)
      · obtain rfl := Option.some.inj ho
        clear q38 q39 q40 q41 q42 q43 q45 q46 q47 q48 q49 t2 t3 t5 t6 t7 c0 c1 c2 c3 d0 d1 d2 d3
        obtain ⟨s2, n2, A2, m2, c2, e2, hRI⟩ : IV wx (v 44) zq := HJ.out.2 6 (HD.out ⟨6, .data⟩ (by simp) rfl)
        rw [e2] at q44
        have HR := Lib.hid (HJ.out.store2 hRI)
        obtain ⟨⟨p0, p1, p2, p3, p4, p5⟩, p6, p7, p8, -⟩ := HJ.out.1.wq
        clear e2 hRI
        clear ho hi
        go_simp
        exact hK' _ HR.out
      · obtain rfl := Option.some.inj ho
        clear q38 q39 q40 q41 q42 q43 q44 q45 q46 q47 q48 t2 t3 t4 t6 t7 c0 c1 c2 c3 d0 d1 d2 d3
        obtain ⟨s2, n2, A2, m2, c2, e2, hRI⟩ : IV wx (v 49) zr := HJ.out.2 11 (HD.out ⟨11, .data⟩ (by simp) rfl)
        rw [e2] at q49
        have HR := Lib.hid (HJ.out.store3 hRI)
        obtain ⟨⟨p0, p1, p2, p3, p4, p5⟩, p6, p7, p8, -⟩ := HJ.out.1.wr
        clear e2 hRI
        clear ho hi
        go_simp
        exact hK' _ HR.out
    · intro b v wx hall hJ
      obtain ⟨s2, n2, A2, m2, c2, ⟨e0, e1, e2, -⟩, hRI⟩ : BI wx (w.heap.size + 1 + 1) zq := hJ.2 12 (hall 12 (by decide))
      obtain ⟨s3, n3, A3, m3, c3, ⟨f0, f1, f2, -⟩, hRI'⟩ : BI wx (w.heap.size + 1 + 1 + 1) zr := hJ.2 13 (hall 13 (by decide))
      have HB := Lib.hid hJ.1.below
      have HRI := Lib.hid hRI
      have HRI' := Lib.hid hRI'
      simp only [over, List.setIfInBounds_toArray, List.set_cons_zero, List.set_cons_succ]
      clear hall hJ hRI hRI'
      generalize v 38 = v38
      generalize v 39 = v39
      generalize v 40 = v40
      generalize v 41 = v41
      generalize v 42 = v42
      generalize v 43 = v43
      generalize v 44 = v44
      generalize v 45 = v45
      generalize v 46 = v46
      generalize v 47 = v47
      generalize v 48 = v48
      generalize v 49 = v49
      go_wp2_with fail
      exact bodyPost_ret (v := .tuple #[.agg #[.int .i64 s2, .bool n2, .slice A2 m2 c2], .agg #[.int .i64 s3, .bool n3, .slice A3 m3 c3]]) (by simp [results, Tryz.results153, go_sem, *]) rfl ⟨s2, n2, A2, m2, c2, s3, n3, A3, m3, c3, rfl, HRI.out, HRI'.out, HB.out⟩
theorem rover_any (s s' : Int) (neg neg' : Bool) (A A' : Option Addr) (n c n' c' K : Nat) (z z' : Int) (w : World) (h : RI w s neg A n c z) (h' : RI w s' neg' A' n' c' z') (hK : K ≤ 250000) (hz : z.natAbs < Bs ^ K) (hz' : z'.natAbs < Bs ^ K) (h0 : z' ≠ 0) :
    Calls Tryz.prog 153 #[.agg #[.int .i64 s, .bool neg, .slice A n c], .agg #[.int .i64 s', .bool neg', .slice A' n' c']] w (RetII (z.tdiv z') (z.tmod z') w) := by
  by_cases hn : n = 0
  · have g1 : ((n : Int) == 0) = true := by rw [hn]; rfl
    by_cases hn' : n' = 0
    · obtain ⟨l, -, -, -, -, ⟨-, rfl, rfl, h1⟩ | ⟨h5, _⟩⟩ := h
      · obtain ⟨l', -, -, -, -, ⟨-, rfl, rfl, -⟩ | ⟨h5, _⟩⟩ := h'
        · subst hn hn'
          exact rover_small s s' A A' c c' w h1 h0
        · omega
      · omega
    · exact rover_big s s' neg neg' A A' n c n' c' K z z' w h h' hK hz hz' h0 (Or.inr ⟨g1, by rw [beq_eq_false_iff_ne]; omega⟩)
  · exact rover_big s s' neg neg' A A' n c n' c' K z z' w h h' hK hz hz' h0 (Or.inl (by rw [beq_eq_false_iff_ne]; omega))
theorem Lc.uniq {w : World} {A : Option Addr} {l l' : List Nat} (h : Lc w A l) (h' : Lc w A l') (he : l.length = l'.length) : l = l' := by
  refine List.ext_getElem he fun i h1 h2 => ?_
  obtain ⟨b, off, e, -, hc⟩ := h (by omega)
  obtain ⟨b', off', e', -, hc'⟩ := h' (by omega)
  rw [e] at e'
  injection e' with e'
  injection e' with e1 e2
  subst e1 e2
  have k := (hc i h1).symm.trans (hc' i h2)
  injection k with k
  injection k with k1 k2
  have : l.getD i 0 = l'.getD i 0 := by omega
  rw [List.getD_eq_getElem?_getD, List.getD_eq_getElem?_getD, List.getElem?_eq_getElem h1, List.getElem?_eq_getElem h2] at this
  exact this
theorem RI.uniq {w : World} {s : Int} {neg : Bool} {A : Option Addr} {n c : Nat} {z z' : Int} (h : RI w s neg A n c z) (h' : RI w s neg A n c z') : z = z' := by
  obtain ⟨l, h1, -, -, h4, h5⟩ := h
  obtain ⟨l', k1, -, -, k4, k5⟩ := h'
  rcases h5 with ⟨e1, e2, -, -⟩ | ⟨e1, -, e3, -, e5, -⟩
  · rcases k5 with ⟨d1, d2, -, -⟩ | ⟨d1, -⟩
    · rw [← e2, d2]
    · omega
  · rcases k5 with ⟨d1, -⟩ | ⟨d1, -, d3, -, d5, -⟩
    · omega
    · obtain rfl := h4.uniq k4 (by omega)
      have e : z.natAbs = z'.natAbs := by rw [← e5, d5]
      have g := e3.symm.trans d3
      rw [decide_eq_decide] at g
      omega
theorem BI.uniq {w : World} {g : Nat} {z z' : Int} (h : BI w g z) (h' : BI w g z') : z = z' := by
  obtain ⟨s, neg, A, n, c, ⟨a1, a2, a3, -⟩, hR⟩ := h
  obtain ⟨s', neg', A', n', c', ⟨b1, b2, b3, -⟩, hR'⟩ := h'
  have e1 := a1.symm.trans b1
  have e2 := a2.symm.trans b2
  have e3 := a3.symm.trans b3
  injection e1 with e1
  injection e1 with _ e1
  injection e2 with e2
  injection e2 with e2
  injection e3 with e3
  injection e3 with e3 e4 e5
  subst e1 e2 e3 e4 e5
  exact hR.uniq hR'
theorem bi_size (g : Nat) : ∃ f : World → Nat, ∀ wr z, BI wr g z → f wr = z.natAbs := by
  classical
  refine ⟨fun wr => if h : ∃ z, BI wr g z then (Classical.choose h).natAbs else 0, fun wr z hz => ?_⟩
  have h : ∃ z, BI wr g z := ⟨z, hz⟩
  show dite _ _ _ = _
  rw [dif_pos h, (Classical.choose_spec h).uniq hz]
def GcL (w : World) (K D : Nat) (wr : World) : Prop :=
  ∃ z1 z2, Below w.heap.size w wr ∧ W3 w.heap.size wr ∧ W3 (w.heap.size + 1) wr ∧ W3 (w.heap.size + 1 + 1) wr ∧ BI wr w.heap.size z1 ∧ BI wr (w.heap.size + 1) z2 ∧ z1.natAbs < Bs ^ K ∧ z2.natAbs < Bs ^ K ∧ Nat.gcd z1.natAbs z2.natAbs = D
theorem gcd_tmod (z1 z2 : Int) : Nat.gcd z2.natAbs (z1.tmod z2).natAbs = Nat.gcd z1.natAbs z2.natAbs := by
  rw [Int.natAbs_tmod, Nat.gcd_comm z1.natAbs, Nat.gcd_comm z2.natAbs]
  exact (Nat.gcd_rec z2.natAbs z1.natAbs).symm
theorem Drn.w3 {w w' : World} (h : Drn w w') {g : Nat} (hd : W3 g w) : W3 g w' := by obtain ⟨q, rfl⟩ := h; exact hd
theorem Drn.bi {w w' : World} (h : Drn w w') {g : Nat} {z : Int} (hd : BI w g z) : BI w' g z := by obtain ⟨q, rfl⟩ := h; exact hd
theorem GcL.next {w Y wf wr : World} {K D : Nat} {f : World → Nat} {s2 s4 z1 z2 : Int} {n2 n4 : Bool} {A2 A4 : Option Addr} {m2 c2 m4 c4 : Nat}
    (hd : Drn (set3 (set3 Y w.heap.size (.int .i64 s2) (.bool n2) (.slice A2 m2 c2)) (w.heap.size + 1) (.int .i64 s4) (.bool n4) (.slice A4 m4 c4)) wf)
    (hY : Below w.heap.size w Y) (ha : W3 w.heap.size Y) (hb : W3 (w.heap.size + 1) Y) (hc : W3 (w.heap.size + 1 + 1) Y) (h2 : RI Y s2 n2 A2 m2 c2 z2) (h4 : RI Y s4 n4 A4 m4 c4 (z1.tmod z2)) (h0 : z2 ≠ 0) (hz2 : z2.natAbs < Bs ^ K)
    (hD : Nat.gcd z1.natAbs z2.natAbs = D) (hM : f wr = z2.natAbs) (hf : ∀ wr z, BI wr (w.heap.size + 1) z → f wr = z.natAbs) : GcL w K D wf ∧ f wf < f wr := by
  have hb1 := hb.set_3 (show w.heap.size + 1 ≠ w.heap.size by omega) (.int .i64 s2) (.bool n2) (.slice A2 m2 c2)
  have kb : BI wf (w.heap.size + 1) (z1.tmod z2) := hd.bi ⟨s4, n4, A4, m4, c4, (hb1.set _ _ _).1, (h4.set_3 ha _ _ _).set_3 hb1 _ _ _⟩
  have ka : BI wf w.heap.size z2 := hd.bi ⟨s2, n2, A2, m2, c2, (ha.set _ _ _).1.set_3 (by omega) _ _ _, (h2.set_3 ha _ _ _).set_3 hb1 _ _ _⟩
  have hm := Nat.mod_lt z1.natAbs (show 0 < z2.natAbs by omega)
  rw [← Int.natAbs_tmod] at hm
  exact ⟨⟨z2, z1.tmod z2, (set3_below (set3_below hY (Nat.le_refl _) _ _ _) (Nat.le_succ _) _ _ _).trans (hd.below _), hd.w3 ((ha.set _ _ _).2.set_3 (by omega) _ _ _), hd.w3 (hb1.set _ _ _).2, hd.w3 ((hc.set_3 (by omega) _ _ _).set_3 (by omega) _ _ _),
    ka, kb, hz2, Nat.lt_trans hm hz2, by rw [gcd_tmod]; exact hD⟩, by rw [hM, hf _ _ kb]; exact hm⟩
theorem rgcd_any (s s' : Int) (neg neg' : Bool) (A A' : Option Addr) (n c n' c' K : Nat) (z z' : Int) (w : World) (h : RI w s neg A n c z) (h' : RI w s' neg' A' n' c' z') (hK : K ≤ 250000) (hz : z.natAbs < Bs ^ K) (hz' : z'.natAbs < Bs ^ K) :
    Calls Tryz.prog 128 #[.agg #[.int .i64 s, .bool neg, .slice A n c], .agg #[.int .i64 s', .bool neg', .slice A' n' c']] w (RetI (Nat.gcd z.natAbs z'.natAbs : Nat) w) := by
  have HS : Hid (∀ wx t b B m d x, RI wx t b B m d x → x.natAbs < Bs ^ K → Calls Tryz.prog 108 #[.agg #[.int .i64 t, .bool b, .slice B m d]] wx fun e w' => e = .returned (.int .i64 (sgnI x)) ∧ Below wx.heap.size wx w') := fun wx t b B m d x k1 k2 => rsign_any t b B m d x wx k1 (by have := k1.len k2; omega)
  have HA : Hid (∀ wx t b B m d x, RI wx t b B m d x → x.natAbs < Bs ^ K → Calls Tryz.prog 154 #[.agg #[.int .i64 t, .bool b, .slice B m d]] wx (RetI (x.natAbs : Int) wx)) := fun wx t b B m d x k1 k2 => rabs_any t b B m d x wx k1 (by have := k1.len k2; omega)
  have HO : Hid (∀ wx t b B m d x t' b' B' m' d' x', RI wx t b B m d x → RI wx t' b' B' m' d' x' → x.natAbs < Bs ^ K → x'.natAbs < Bs ^ K → x' ≠ 0 → Calls Tryz.prog 153 #[.agg #[.int .i64 t, .bool b, .slice B m d], .agg #[.int .i64 t', .bool b', .slice B' m' d']] wx (RetII (x.tdiv x') (x.tmod x') wx)) := fun wx t b B m d x t' b' B' m' d' x' k1 k2 k3 k4 k5 => rover_any t t' b b' B B' m d m' d' K x x' wx k1 k2 hK k3 k4 k5
  obtain ⟨D, hD⟩ : ∃ D, Nat.gcd z.natAbs z'.natAbs = D := ⟨_, rfl⟩
  obtain ⟨f, hf⟩ := bi_size (w.heap.size + 1)
  have HFn := Lib.hid hf
  have HST : Hid (∀ X, Below w.heap.size w X → B3 w.heap.size (.int .i64 s) (.bool neg) (.slice A n c) X → B3 (w.heap.size + 1) (.int .i64 s') (.bool neg') (.slice A' n' c') X → W3 w.heap.size X → W3 (w.heap.size + 1) X → W3 (w.heap.size + 1 + 1) X → GcL w K D X) := fun X k1 k2 k3 k4 k5 k6 =>
    ⟨z, z', k1, k4, k5, k6, ⟨s, neg, A, n, c, k2, h.keep k1⟩, ⟨s', neg', A', n', c', k3, h'.keep k1⟩, hz, hz', hD⟩
  rw [hD]
  clear h h' hK hz hz' hD hf
  go_enter Tryz.func128, Tryz.ntmps128
  go_wp2_with fail
  generalize hX : (((w.alloc _).alloc _).alloc _) = X
  have HX : Hid (GcL w K D X) := by
    subst hX
    refine HST.out _ ?_ ?_ ?_ ?_ ?_ ?_
    · exact (((Below.refl _ _).alloc (Nat.le_refl _) _).alloc (by simp) _).alloc (by simp; omega) _
    · simp [B3, go_sem]
    · simp [B3, go_sem]
    · exact ((W3.new w _ _ _ rfl).keep (below_alloc _ _)).keep (below_alloc _ _)
    · exact (W3.new _ _ _ _ (by simp)).keep (below_alloc _ _)
    · exact W3.new _ _ _ _ (by simp)
  clear hX HST
  go_loopw [] (fun wr => GcL w K D wr) (fun wr => f wr)
  case atStart => exact HX.out
  case round =>
    rename_i wr _
    obtain ⟨z1, z2, hbel, hW1, hW2, hW3, ⟨s1, n1, A1, m1, c1, ⟨a0, a1, a2, a3⟩, hRI1⟩, ⟨s2, n2, A2, m2, c2, ⟨d0, d1, d2, d3⟩, hRI2⟩, hz1, hz2, hD⟩ := hrel
    have HRI1 := Lib.hid hRI1
    have HRI2 := Lib.hid hRI2
    have HZ1 := Lib.hid hz1
    have HZ2 := Lib.hid hz2
    have HD := Lib.hid hD
    have HBel := Lib.hid hbel
    have HW1 := Lib.hid hW1
    have HW2 := Lib.hid hW2
    have HW3 := Lib.hid hW3
    clear hRI1 hRI2 hz1 hz2 hD hbel hW1 hW2 hW3 HX
    go_wp2_with fail
    (with_reducible refine (HS.out _ _ _ _ _ _ _ HRI2.out HZ2.out).mono ?_)
    rintro e w1 ⟨rfl, hB1⟩
    have HB1 := Lib.hid hB1
    obtain ⟨a0', a1', a2', a3'⟩ := B3.keep ⟨a0, a1, a2, a3⟩ hB1
    obtain ⟨d0', d1', d2', d3'⟩ := B3.keep ⟨d0, d1, d2, d3⟩ hB1
    have HM := Lib.hid (HFn.out wr z2 ⟨s2, n2, A2, m2, c2, ⟨d0, d1, d2, d3⟩, HRI2.out⟩)
    have HBa : Hid (B3 w.heap.size (.int .i64 s1) (.bool n1) (.slice A1 m1 c1) w1) := ⟨a0', a1', a2', a3'⟩
    have HBb : Hid (B3 (w.heap.size + 1) (.int .i64 s2) (.bool n2) (.slice A2 m2 c2) w1) := ⟨d0', d1', d2', d3'⟩
    have HBel1 := Lib.hid (HBel.out.trans (hB1.mono HBel.out.size))
    clear a0 a1 a2 a3 d0 d1 d2 d3 hB1
    by_cases h0 : z2 = 0
    · have g : (sgnI z2 != 0) = false := by rw [h0]; rfl
      generalize sgnI z2 = q2 at g ⊢
      go_wp2_with fail
      (with_reducible refine (HA.out _ _ _ _ _ _ _ (HRI1.out.keep HB1.out) HZ1.out).mono ?_)
      rintro e w2 ⟨s3, n3, A3, m3, c3, rfl, hRI, hB2⟩
      have HB2 := Lib.hid hB2
      have HRI := Lib.hid hRI
      obtain ⟨⟨o1, o2, o3, o4, o5, o6⟩, q1, q2', q3, q4⟩ := (HW3.out.keep HB1.out).keep hB2
      have HQ4 := Lib.hid q4
      have HE : Hid ((z1.natAbs : Int) = D) := by
        show _ = _
        have := HD.out
        rw [h0] at this
        rw [← this]
        simp
      clear hRI hB2 q4 a0' a1' a2' d0' d1' d2'
      go_wp2_with fail
      have hR := HRI.out
      rw [HE.out] at hR
      exact bodyPost_ret (v := .agg #[.int .i64 s3, .bool n3, .slice A3 m3 c3]) (by simp [results, Tryz.results128, go_sem, *]) rfl (retI_box hR HQ4.out (HBel1.out.trans (HB2.out.mono HBel1.out.size)) (by omega))
    · have g : (sgnI z2 != 0) = true := by
        rw [bne_iff_ne]
        unfold sgnI
        by_cases k : z2 < 0
        · rw [if_pos k]; decide
        · rw [if_neg k, if_neg h0]; decide
      generalize sgnI z2 = q2 at g ⊢
      go_wp2_with fail
      (with_reducible refine (HO.out _ _ _ _ _ _ _ _ _ _ _ _ _ (HRI1.out.keep HB1.out) (HRI2.out.keep HB1.out) HZ1.out HZ2.out h0).mono ?_)
      rintro e w2 ⟨s3, n3, A3, m3, c3, s4, n4, A4, m4, c4, rfl, hRI3, hRI4, hB2⟩
      have HB2 := Lib.hid hB2
      have HRI3 := Lib.hid hRI3
      have HRI4 := Lib.hid hRI4
      have HBel2 := Lib.hid (HBel1.out.trans (hB2.mono HBel1.out.size))
      have HBb2 := Lib.hid (HBb.out.keep hB2)
      have hlt : w.heap.size + 1 < w2.heap.size := Nat.lt_of_lt_of_le HBb.out.2.2.2 hB2.size
      clear hRI3 hRI4 hB2
      go_upto_region 3 with fail
      generalize hY : (w2.alloc _).alloc _ = Y
      have HY : Hid (Below w2.heap.size w2 Y ∧ B3 (w2.heap.size + 1) (.int .i64 s4) (.bool n4) (.slice A4 m4 c4) Y) := by
        subst hY
        exact ⟨((Below.refl _ _).alloc (Nat.le_refl _) _).alloc (by simp) _, by simp [B3, go_sem]⟩
      clear hY
      obtain ⟨y0, y1, y2, y3⟩ := HY.out.2
      obtain ⟨x0, x1, x2, x3⟩ := HBb2.out.keep HY.out.1
      have HWa := Lib.hid (((HW1.out.keep HB1.out).keep HB2.out).keep HY.out.1)
      have HWb := Lib.hid (((HW2.out.keep HB1.out).keep HB2.out).keep HY.out.1)
      have HWc := Lib.hid (((HW3.out.keep HB1.out).keep HB2.out).keep HY.out.1)
      obtain ⟨⟨o1, o2, o3, o4, o5, o6⟩, o7, o8, o9, -⟩ := HWa.out
      obtain ⟨⟨p1, p2, p3, p4, p5, p6⟩, p7, p8, p9, -⟩ := HWb.out
      have HR2 := Lib.hid (((HRI2.out.keep HB1.out).keep HB2.out).keep HY.out.1)
      have HR4 := Lib.hid (HRI4.out.keep HY.out.1)
      have HYB := Lib.hid (HBel2.out.trans (HY.out.1.mono HBel2.out.size))
      have HEND : Hid (∀ wf, Drn (set3 (set3 Y w.heap.size (.int .i64 s2) (.bool n2) (.slice A2 m2 c2)) (w.heap.size + 1) (.int .i64 s4) (.bool n4) (.slice A4 m4 c4)) wf → GcL w K D wf ∧ f wf < f wr) := fun wf hd =>
        GcL.next hd HYB.out HWa.out HWb.out HWc.out HR2.out HR4.out h0 HZ2.out HD.out HM.out HFn.out
      clear HM HBa HBb HBel1 HB2 HRI3 HRI4 HBel2 HBb2 HY HWc HR2 HR4 HYB a0' a1' a2' d0' d1' d2'
      go_region_with fail
      all_goals go_wp2_with fail
      all_goals exact HEND.out _ (by first | exact ⟨0, rfl⟩ | exact ⟨1, rfl⟩ | exact ⟨2, rfl⟩)
end Go.Proofs.YtmfnpipmbpnfbaaGreatDoor
