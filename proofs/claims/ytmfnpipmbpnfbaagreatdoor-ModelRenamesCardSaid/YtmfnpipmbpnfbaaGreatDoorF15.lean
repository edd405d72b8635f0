/- The sum of integers of the reference in memory. -/
import Derived.Test.YtmfnpipmbpnfbaaGreatDoorF08
import Derived.Deep.RegionHeld3
import Derived.Test.YtmfnpipmbpnfbaaGreatDoorF14

set_option maxRecDepth 100000
set_option maxHeartbeats 40000000
namespace Go.Proofs.YtmfnpipmbpnfbaaGreatDoor
open Go.RowKit
theorem rof_any (n : Int) (w : World) (h1 : -9223372036854775808 ≤ n) (h2 : n ≤ 9223372036854775807) : Calls Tryz.prog 70 #[.int .i64 n] w (RetI n w) := by
  by_cases h : n.natAbs < Edge
  · exact rof_small n w h
  · rcases Int.le_total 0 n with h0 | h0
    · obtain ⟨x, rfl⟩ := Int.eq_ofNat_of_zero_le h0
      exact rof_pos x w (by omega) (by omega)
    · exact (by
        have := rof_neg n.natAbs n (by omega) w (by omega) (by omega)
        exact this)
theorem boxesI (w : World) (p q r p' q' r' : Value) : ∃ X, ((w.alloc (.cells #[p, q, r] 84)).alloc (.cells #[p', q', r'] 84)).alloc (.cells #[.int .i64 0, .bool false, .slice none 0 0] 84) = X ∧
    Below w.heap.size w X ∧ X.heap.size = w.heap.size + 3 ∧ B3 w.heap.size p q r X ∧ B3 (w.heap.size + 1) p' q' r' X ∧ W3 (w.heap.size + 1 + 1) X :=
  ⟨_, rfl, (((Below.refl _ _).alloc (Nat.le_refl _) _).alloc (by simp) _).alloc (by simp; omega) _, by simp, by simp [B3, go_sem], by simp [B3, go_sem], W3.new _ _ _ _ (by simp)⟩
theorem sgn_lt (z : Int) : decide (sgnI z < 0) = decide (z < 0) := by
  unfold sgnI
  by_cases h : z < 0
  · simp [h]
  · rw [if_neg h]
    split <;> simp [h]
theorem len_of_val {l : List Nat} {z : Int} {K : Nat} (hz : Nz l) (hv : val l = z.natAbs) (hK : z.natAbs < Bs ^ K) : l.length ≤ K := len_le hz (by rw [hv]; exact hK)
theorem rplus_small (s s' : Int) (A A' : Option Addr) (c c' : Nat) (w : World) (h : s.natAbs < Edge) (h' : s'.natAbs < Edge) :
    Calls Tryz.prog 130 #[.agg #[.int .i64 s, .bool false, .slice A 0 c], .agg #[.int .i64 s', .bool false, .slice A' 0 c']] w (RetI (s + s') w) := by
  rw [Edge_eq] at h h'
  have HO : Hid (∀ wx, Calls Tryz.prog 70 #[.int .i64 (s + s')] wx (RetI (s + s') wx)) := fun wx => rof_any _ wx (by omega) (by omega)
  have hw : IntKind.i64.wrap (s + s') = s + s' := IntWalk.i64_in _ (by omega)
  have b1 : -2305843009213693952 < s := by omega
  have b2 : s < 2305843009213693952 := by omega
  have b3 : -2305843009213693952 < s' := by omega
  have b4 : s' < 2305843009213693952 := by omega
  clear h h'
  go_enter Tryz.func130, Tryz.ntmps130
  go_upto_region 1 with fail
  obtain ⟨X, hX, hwX, hz, ⟨k0, k1, k2, -⟩, ⟨j0, j1, j2, -⟩, hW⟩ := boxesI w (.int .i64 s) (.bool false) (.slice A 0 c) (.int .i64 s') (.bool false) (.slice A' 0 c')
  rw [hX]
  clear hX
  have HZ := Lib.hid hz
  clear hz
  go_wp2_with fail
  (with_reducible refine (HO.out _).mono ?_)
  rintro e w1 ⟨s1, n1, A1, m1, c1, rfl, hRI, hB⟩
  obtain ⟨⟨p1, p2, p3, p4, p5, p6⟩, p7, p8, p9, p10⟩ := hW.keep hB
  have hT := hwX.trans (hB.mono hwX.size)
  have H1 := Lib.hid hRI
  have H2 := Lib.hid p10
  have H3 := Lib.hid hT
  clear hRI p10 hT hB k0 k1 k2 j0 j1 j2
  go_wp2_with fail
  exact bodyPost_ret (v := .agg #[.int .i64 s1, .bool n1, .slice A1 m1 c1]) (by simp [results, Tryz.results130, go_sem, *]) rfl (retI_box H1.out H2.out H3.out (by omega))
theorem len_le_of_val {a b : List Nat} (ha : Dl a) (hb : Nz b) (h : val b ≤ val a) : b.length ≤ a.length := by
  rcases Nat.lt_or_ge a.length b.length with h1 | h1
  · have := lt_of_len ha hb h1; omega
  · exact h1
theorem cmp_ge_of {x y : Nat} (h : y ≤ x) : decide (0 ≤ cmpN x y) = true := by
  unfold cmpN
  rw [if_neg (by omega)]
  split <;> decide
theorem cmp_lt_of {x y : Nat} (h : x < y) : decide (0 ≤ cmpN x y) = false := by
  unfold cmpN
  rw [if_pos h]
  decide
theorem rplus_big (s s' : Int) (neg neg' : Bool) (A A' : Option Addr) (n c n' c' K : Nat) (z z' : Int) (w : World) (h : RI w s neg A n c z) (h' : RI w s' neg' A' n' c' z') (hK : K ≤ 250000) (hz : z.natAbs < Bs ^ K) (hz' : z'.natAbs < Bs ^ K)
    (hg : (((n : Int) == 0) = false) ∨ ((((n : Int) == 0) = true) ∧ (((n' : Int) == 0) = false))) :
    Calls Tryz.prog 130 #[.agg #[.int .i64 s, .bool neg, .slice A n c], .agg #[.int .i64 s', .bool neg', .slice A' n' c']] w (RetI (z + z') w) := by
  have hn := h.len hz
  have hn' := h'.len hz'
  have HL1 : Hid (∀ wx, Below w.heap.size w wx → Calls Tryz.prog 134 #[.agg #[.int .i64 s, .bool neg, .slice A n c]] wx (RetL (fun l => Nz l ∧ val l = z.natAbs) wx)) := fun wx hb => rlist_any s neg A n c z wx (h.keep hb) (by omega)
  have HL2 : Hid (∀ wx, Below w.heap.size w wx → Calls Tryz.prog 134 #[.agg #[.int .i64 s', .bool neg', .slice A' n' c']] wx (RetL (fun l => Nz l ∧ val l = z'.natAbs) wx)) := fun wx hb => rlist_any s' neg' A' n' c' z' wx (h'.keep hb) (by omega)
  obtain ⟨b1, hb1⟩ : ∃ b1, decide (z < 0) = b1 := ⟨_, rfl⟩
  obtain ⟨b2, hb2⟩ : ∃ b2, decide (z' < 0) = b2 := ⟨_, rfl⟩
  obtain ⟨q1, hq1⟩ : ∃ q1, sgnI z = q1 := ⟨_, rfl⟩
  obtain ⟨q2, hq2⟩ : ∃ q2, sgnI z' = q2 := ⟨_, rfl⟩
  have HS1 : Hid (∀ wx, Below w.heap.size w wx → Calls Tryz.prog 108 #[.agg #[.int .i64 s, .bool neg, .slice A n c]] wx fun e w' => e = .returned (.int .i64 q1) ∧ Below wx.heap.size wx w') := fun wx hb => by
    rw [← hq1]; exact rsign_any s neg A n c z wx (h.keep hb) (by omega)
  have HS2 : Hid (∀ wx, Below w.heap.size w wx → Calls Tryz.prog 108 #[.agg #[.int .i64 s', .bool neg', .slice A' n' c']] wx fun e w' => e = .returned (.int .i64 q2) ∧ Below wx.heap.size wx w') := fun wx hb => by
    rw [← hq2]; exact rsign_any s' neg' A' n' c' z' wx (h'.keep hb) (by omega)
  have hd1 : decide (q1 < 0) = b1 := by rw [← hq1, sgn_lt]; exact hb1
  have hd2 : decide (q2 < 0) = b2 := by rw [← hq2, sgn_lt]; exact hb2
  have HB1 := Lib.hid hb1
  have HB2 := Lib.hid hb2
  have HZ1 := Lib.hid hz
  have HZ2 := Lib.hid hz'
  have HK := Lib.hid hK
  have HD1 := Lib.hid hd1
  have HD2 := Lib.hid hd2
  clear h h' hn hn' hb1 hb2 hq1 hq2 hz hz' hK hd1 hd2
  rcases hg with g1 | ⟨g1, g2⟩
  all_goals
    go_enter Tryz.func130, Tryz.ntmps130
    go_upto_region 1 with fail
    obtain ⟨X, hX, hwX, hsX, ⟨k0, k1, k2, za⟩, ⟨j0, j1, j2, zb⟩, hW⟩ := boxesI w (.int .i64 s) (.bool neg) (.slice A n c) (.int .i64 s') (.bool neg') (.slice A' n' c')
    rw [hX]
    clear hX
    have HSX := Lib.hid hsX
    have HwX := Lib.hid hwX
    have HW := Lib.hid hW
    clear hsX hwX hW
    go_upto_region 3 with fail
    go_region_held3 (fun w' => w'.cell? ⟨w.heap.size, 0, none⟩ = some (.int .i64 s) ∧ w'.cell? ⟨w.heap.size, 1, none⟩ = some (.bool neg) ∧ w'.cell? ⟨w.heap.size, 2, none⟩ = some (.slice A n c) ∧ w'.cell? ⟨w.heap.size + 1, 0, none⟩ = some (.int .i64 s') ∧ w'.cell? ⟨w.heap.size + 1, 1, none⟩ = some (.bool neg') ∧ w'.cell? ⟨w.heap.size + 1, 2, none⟩ = some (.slice A' n' c')) (simp [go_sem, *])
      (first
        | (go_at_call 134; (with_reducible refine (HL1.out _ (by repeat (first | exact HwX.out | exact HW1.out | exact HW2.out | exact HW3.out | refine Below.drew ?_))).mono ?_); rintro e w1 ⟨v1, l1, rfl, hl1, hp1, hB1⟩; obtain ⟨A1, c1, rfl, hlc1, hdl1, hC1⟩ := hl1; (have R1 : Below X.heap.size X w1 := by first | exact hB1 | exact below_undrew' hB1); have C1 := (bcell R1).1; have HR1 := Lib.hid R1; have HW1 := Lib.hid (HwX.out.trans (R1.mono HwX.out.size)); have HC1a := Lib.hid hC1; have HDl1 := Lib.hid hdl1; have HLC1 := Lib.hid hlc1; have HP1 := Lib.hid hp1; clear R1 hC1 hdl1 hlc1 hp1 hB1)
        | (go_at_call 134; (with_reducible refine (HL2.out _ (by repeat (first | exact HwX.out | exact HW1.out | exact HW2.out | exact HW3.out | refine Below.drew ?_))).mono ?_); rintro e w2 ⟨v2, l2, rfl, hl2, hp2, hB2⟩; obtain ⟨A2, c2, rfl, hlc2, hdl2, hC2⟩ := hl2; (have R2 : Below w1.heap.size w1 w2 := by first | exact hB2 | exact below_undrew' hB2); have HR2 := Lib.hid (stepB HR1.out R2); have C2 := (bcell HR2.out).1; have HW2 := Lib.hid (HwX.out.trans (HR2.out.mono HwX.out.size)); have HC1 := Lib.hid (HC1a.out.keep R2); have HC2 := Lib.hid hC2; have HDl2 := Lib.hid hdl2; have HLC2 := Lib.hid hlc2; have HP2 := Lib.hid hp2; clear C1 R2 hC2 hdl2 hlc2 hp2 hB2))
    all_goals go_upto_region 4 with fail
    all_goals
      have hd1 := HD1.out
      have hd2 := HD2.out
      go_region_held3 (fun w' => w'.cell? ⟨w.heap.size, 0, none⟩ = some (.int .i64 s) ∧ w'.cell? ⟨w.heap.size, 1, none⟩ = some (.bool neg) ∧ w'.cell? ⟨w.heap.size, 2, none⟩ = some (.slice A n c) ∧ w'.cell? ⟨w.heap.size + 1, 0, none⟩ = some (.int .i64 s') ∧ w'.cell? ⟨w.heap.size + 1, 1, none⟩ = some (.bool neg') ∧ w'.cell? ⟨w.heap.size + 1, 2, none⟩ = some (.slice A' n' c')) (simp [go_sem, *])
        (first
          | (go_at_call 108; (with_reducible refine (HS1.out _ (by repeat (first | exact HwX.out | exact HW1.out | exact HW2.out | exact HW3.out | refine Below.drew ?_))).mono ?_); rintro e w3 ⟨rfl, hB3⟩; (have R3 : Below w2.heap.size w2 w3 := by first | exact hB3 | exact below_undrew' hB3); have HR3 := Lib.hid (stepB HR2.out R3); have C3 := (bcell HR3.out).1; have HW3 := Lib.hid (HwX.out.trans (HR3.out.mono HwX.out.size)); have HC3 := Lib.hid (And.intro (HC1.out.keep R3) (HC2.out.keep R3)); clear C2 R3 hB3)
          | (go_at_call 108; (with_reducible refine (HS2.out _ (by repeat (first | exact HwX.out | exact HW1.out | exact HW2.out | exact HW3.out | refine Below.drew ?_))).mono ?_); rintro e w4 ⟨rfl, hB4⟩; (have R4 : Below w3.heap.size w3 w4 := by first | exact hB4 | exact below_undrew' hB4); have HR4 := Lib.hid (stepB HR3.out R4); have C4 := (bcell HR4.out).1; have HW4 := Lib.hid (HwX.out.trans (HR4.out.mono HwX.out.size)); have HC4 := Lib.hid (And.intro (HC3.out.1.keep R4) (HC3.out.2.keep R4)); clear C3 R4 hB4))
      all_goals
        clear hd1 hd2 k0 k1 k2 j0 j1 j2 C4
        have HN1 := Lib.hid (Nat.le_trans (len_of_val HP1.out.1 HP1.out.2 HZ1.out) HK.out)
        have HN2 := Lib.hid (Nat.le_trans (len_of_val HP2.out.1 HP2.out.2 HZ2.out) HK.out)
        cases b1 <;> cases b2
        · have HSG := Lib.hid (And.intro (of_decide_eq_false HB1.out) (of_decide_eq_false HB2.out))
          go_wp2_with fail
          (with_reducible refine (sum_any A1 A2 l1.length l2.length c1 c2 l1 l2 w4 (by have := HN1.out; omega) (by have := HN2.out; omega) rfl rfl HC4.out.1 HC4.out.2 HDl1.out HDl2.out).mono ?_)
          rintro e w5 ⟨v, l, rfl, hl, hv, hB5⟩
          obtain ⟨A5, c5, rfl, hlc5, hd5, hC5⟩ := hl
          have HV := Lib.hid hv
          have HB5 := Lib.hid (stepB HR4.out hB5)
          have HLC5 := Lib.hid hlc5
          have HD5 := Lib.hid hd5
          have HC5 := Lib.hid hC5
          clear hv hB5 hlc5 hd5 hC5
          go_wp2_with fail
          (with_reducible refine (made_any false A5 l.length c5 l _ rfl HLC5.out.1 HLC5.out.2 HD5.out HC5.out).mono ?_)
          rintro e w6 ⟨s1, n1, A6, m6, c6, rfl, hRI, hB6⟩
          have e6 : sgz false (val l) = z + z' := by
            have h1 := HV.out
            rw [HP1.out.2, HP2.out.2] at h1
            have h2 := HSG.out
            show ((val l : Int)) = z + z'
            omega
          rw [e6] at hRI
          have HRI := Lib.hid hRI
          have HB6 := Lib.hid (stepB HB5.out hB6)
          clear hRI hB6 e6
          obtain ⟨⟨p1, p2, p3, p4, p5, p6⟩, p7, p8, p9, p10⟩ := HW.out.keep HB6.out
          have HP10 := Lib.hid p10
          clear p10
          go_wp2_with fail
          exact bodyPost_ret (v := .agg #[.int .i64 s1, .bool n1, .slice A6 m6 c6]) (by simp [results, Tryz.results130, go_sem, *]) rfl (retI_box HRI.out HP10.out (HwX.out.trans (HB6.out.mono HwX.out.size)) (by omega))
        · have HSG := Lib.hid (And.intro (of_decide_eq_false HB1.out) (of_decide_eq_true HB2.out))
          obtain ⟨q, hq⟩ : ∃ q, cmpN (val l1) (val l2) = q := ⟨_, rfl⟩
          have HQ := Lib.hid hq
          clear hq
          by_cases hle : val l2 ≤ val l1
          · have HVE : Hid (val l2 ≤ val l1) := hle
            have HLE : Hid (l2.length ≤ l1.length) := len_le_of_val HDl1.out HP2.out.1 HVE.out
            have hq0 : decide (0 ≤ q) = true := by rw [← HQ.out]; exact cmp_ge_of hle
            go_wp2_with fail
            (with_reducible refine (rcmp_any A1 A2 l1.length l2.length c1 c2 l1 l2 w4 (by have := HN1.out; omega) rfl rfl HC4.out.1 HC4.out.2 HDl1.out HDl2.out HP1.out.1 HP2.out.1).mono ?_)
            rintro e wd ⟨rfl, hdr⟩
            have HRd := Lib.hid (stepB HR4.out (hdr.below _))
            have HCd := Lib.hid (And.intro (hdr.lc HC4.out.1) (hdr.lc HC4.out.2))
            clear hdr
            rw [HQ.out]
            go_wp2_with fail
            (with_reducible refine (dif_any A1 A2 l1.length l2.length c1 c2 l1 l2 wd (by have := HN1.out; omega) HLE.out rfl rfl (HCd.out.1) (HCd.out.2) HDl1.out HDl2.out HVE.out).mono ?_)
            rintro e w5 ⟨v, l, rfl, hl, ⟨-, hv⟩, hB5⟩
            obtain ⟨A5, c5, rfl, hlc5, hd5, hC5⟩ := hl
            have HV := Lib.hid hv
            have HB5 := Lib.hid (stepB HRd.out hB5)
            have HLC5 := Lib.hid hlc5
            have HD5 := Lib.hid hd5
            have HC5 := Lib.hid hC5
            clear hv hB5 hlc5 hd5 hC5
            go_wp2_with fail
            (with_reducible refine (made_any false A5 l.length c5 l _ rfl HLC5.out.1 HLC5.out.2 HD5.out HC5.out).mono ?_)
            rintro e w6 ⟨s1, n1, A6, m6, c6, rfl, hRI, hB6⟩
            have e6 : sgz false (val l) = z + z' := by
              have h1 := HV.out
              rw [HP1.out.2, HP2.out.2] at h1
              have h2 := HSG.out
              show ((val l : Int)) = z + z'
              omega
            rw [e6] at hRI
            have HRI := Lib.hid hRI
            have HB6 := Lib.hid (stepB HB5.out hB6)
            clear hRI hB6 e6
            obtain ⟨⟨p1, p2, p3, p4, p5, p6⟩, p7, p8, p9, p10⟩ := HW.out.keep HB6.out
            have HP10 := Lib.hid p10
            clear p10
            go_wp2_with fail
            exact bodyPost_ret (v := .agg #[.int .i64 s1, .bool n1, .slice A6 m6 c6]) (by simp [results, Tryz.results130, go_sem, *]) rfl (retI_box HRI.out HP10.out (HwX.out.trans (HB6.out.mono HwX.out.size)) (by omega))
          · have HVE : Hid (val l1 ≤ val l2) := (Nat.le_of_lt (Nat.lt_of_not_le hle))
            have HLE : Hid (l1.length ≤ l2.length) := len_le_of_val HDl2.out HP1.out.1 HVE.out
            have hq0 : decide (0 ≤ q) = false := by rw [← HQ.out]; exact cmp_lt_of (Nat.lt_of_not_le hle)
            go_wp2_with fail
            (with_reducible refine (rcmp_any A1 A2 l1.length l2.length c1 c2 l1 l2 w4 (by have := HN1.out; omega) rfl rfl HC4.out.1 HC4.out.2 HDl1.out HDl2.out HP1.out.1 HP2.out.1).mono ?_)
            rintro e wd ⟨rfl, hdr⟩
            have HRd := Lib.hid (stepB HR4.out (hdr.below _))
            have HCd := Lib.hid (And.intro (hdr.lc HC4.out.1) (hdr.lc HC4.out.2))
            clear hdr
            rw [HQ.out]
            go_wp2_with fail
            (with_reducible refine (dif_any A2 A1 l2.length l1.length c2 c1 l2 l1 wd (by have := HN2.out; omega) HLE.out rfl rfl (HCd.out.2) (HCd.out.1) HDl2.out HDl1.out HVE.out).mono ?_)
            rintro e w5 ⟨v, l, rfl, hl, ⟨-, hv⟩, hB5⟩
            obtain ⟨A5, c5, rfl, hlc5, hd5, hC5⟩ := hl
            have HV := Lib.hid hv
            have HB5 := Lib.hid (stepB HRd.out hB5)
            have HLC5 := Lib.hid hlc5
            have HD5 := Lib.hid hd5
            have HC5 := Lib.hid hC5
            clear hv hB5 hlc5 hd5 hC5
            go_wp2_with fail
            (with_reducible refine (made_any true A5 l.length c5 l _ rfl HLC5.out.1 HLC5.out.2 HD5.out HC5.out).mono ?_)
            rintro e w6 ⟨s1, n1, A6, m6, c6, rfl, hRI, hB6⟩
            have e6 : sgz true (val l) = z + z' := by
              have h1 := HV.out
              rw [HP1.out.2, HP2.out.2] at h1
              have h2 := HSG.out
              show (-(val l : Int)) = z + z'
              omega
            rw [e6] at hRI
            have HRI := Lib.hid hRI
            have HB6 := Lib.hid (stepB HB5.out hB6)
            clear hRI hB6 e6
            obtain ⟨⟨p1, p2, p3, p4, p5, p6⟩, p7, p8, p9, p10⟩ := HW.out.keep HB6.out
            have HP10 := Lib.hid p10
            clear p10
            go_wp2_with fail
            exact bodyPost_ret (v := .agg #[.int .i64 s1, .bool n1, .slice A6 m6 c6]) (by simp [results, Tryz.results130, go_sem, *]) rfl (retI_box HRI.out HP10.out (HwX.out.trans (HB6.out.mono HwX.out.size)) (by omega))
        · have HSG := Lib.hid (And.intro (of_decide_eq_true HB1.out) (of_decide_eq_false HB2.out))
          obtain ⟨q, hq⟩ : ∃ q, cmpN (val l1) (val l2) = q := ⟨_, rfl⟩
          have HQ := Lib.hid hq
          clear hq
          by_cases hle : val l2 ≤ val l1
          · have HVE : Hid (val l2 ≤ val l1) := hle
            have HLE : Hid (l2.length ≤ l1.length) := len_le_of_val HDl1.out HP2.out.1 HVE.out
            have hq0 : decide (0 ≤ q) = true := by rw [← HQ.out]; exact cmp_ge_of hle
            go_wp2_with fail
            (with_reducible refine (rcmp_any A1 A2 l1.length l2.length c1 c2 l1 l2 w4 (by have := HN1.out; omega) rfl rfl HC4.out.1 HC4.out.2 HDl1.out HDl2.out HP1.out.1 HP2.out.1).mono ?_)
            rintro e wd ⟨rfl, hdr⟩
            have HRd := Lib.hid (stepB HR4.out (hdr.below _))
            have HCd := Lib.hid (And.intro (hdr.lc HC4.out.1) (hdr.lc HC4.out.2))
            clear hdr
            rw [HQ.out]
            go_wp2_with fail
            (with_reducible refine (dif_any A1 A2 l1.length l2.length c1 c2 l1 l2 wd (by have := HN1.out; omega) HLE.out rfl rfl (HCd.out.1) (HCd.out.2) HDl1.out HDl2.out HVE.out).mono ?_)
            rintro e w5 ⟨v, l, rfl, hl, ⟨-, hv⟩, hB5⟩
            obtain ⟨A5, c5, rfl, hlc5, hd5, hC5⟩ := hl
            have HV := Lib.hid hv
            have HB5 := Lib.hid (stepB HRd.out hB5)
            have HLC5 := Lib.hid hlc5
            have HD5 := Lib.hid hd5
            have HC5 := Lib.hid hC5
            clear hv hB5 hlc5 hd5 hC5
            go_wp2_with fail
            (with_reducible refine (made_any true A5 l.length c5 l _ rfl HLC5.out.1 HLC5.out.2 HD5.out HC5.out).mono ?_)
            rintro e w6 ⟨s1, n1, A6, m6, c6, rfl, hRI, hB6⟩
            have e6 : sgz true (val l) = z + z' := by
              have h1 := HV.out
              rw [HP1.out.2, HP2.out.2] at h1
              have h2 := HSG.out
              show (-(val l : Int)) = z + z'
              omega
            rw [e6] at hRI
            have HRI := Lib.hid hRI
            have HB6 := Lib.hid (stepB HB5.out hB6)
            clear hRI hB6 e6
            obtain ⟨⟨p1, p2, p3, p4, p5, p6⟩, p7, p8, p9, p10⟩ := HW.out.keep HB6.out
            have HP10 := Lib.hid p10
            clear p10
            go_wp2_with fail
            exact bodyPost_ret (v := .agg #[.int .i64 s1, .bool n1, .slice A6 m6 c6]) (by simp [results, Tryz.results130, go_sem, *]) rfl (retI_box HRI.out HP10.out (HwX.out.trans (HB6.out.mono HwX.out.size)) (by omega))
          · have HVE : Hid (val l1 ≤ val l2) := (Nat.le_of_lt (Nat.lt_of_not_le hle))
            have HLE : Hid (l1.length ≤ l2.length) := len_le_of_val HDl2.out HP1.out.1 HVE.out
            have hq0 : decide (0 ≤ q) = false := by rw [← HQ.out]; exact cmp_lt_of (Nat.lt_of_not_le hle)
            go_wp2_with fail
            (with_reducible refine (rcmp_any A1 A2 l1.length l2.length c1 c2 l1 l2 w4 (by have := HN1.out; omega) rfl rfl HC4.out.1 HC4.out.2 HDl1.out HDl2.out HP1.out.1 HP2.out.1).mono ?_)
            rintro e wd ⟨rfl, hdr⟩
            have HRd := Lib.hid (stepB HR4.out (hdr.below _))
            have HCd := Lib.hid (And.intro (hdr.lc HC4.out.1) (hdr.lc HC4.out.2))
            clear hdr
            rw [HQ.out]
            go_wp2_with fail
            (with_reducible refine (dif_any A2 A1 l2.length l1.length c2 c1 l2 l1 wd (by have := HN2.out; omega) HLE.out rfl rfl (HCd.out.2) (HCd.out.1) HDl2.out HDl1.out HVE.out).mono ?_)
            rintro e w5 ⟨v, l, rfl, hl, ⟨-, hv⟩, hB5⟩
            obtain ⟨A5, c5, rfl, hlc5, hd5, hC5⟩ := hl
            have HV := Lib.hid hv
            have HB5 := Lib.hid (stepB HRd.out hB5)
            have HLC5 := Lib.hid hlc5
            have HD5 := Lib.hid hd5
            have HC5 := Lib.hid hC5
            clear hv hB5 hlc5 hd5 hC5
            go_wp2_with fail
            (with_reducible refine (made_any false A5 l.length c5 l _ rfl HLC5.out.1 HLC5.out.2 HD5.out HC5.out).mono ?_)
            rintro e w6 ⟨s1, n1, A6, m6, c6, rfl, hRI, hB6⟩
            have e6 : sgz false (val l) = z + z' := by
              have h1 := HV.out
              rw [HP1.out.2, HP2.out.2] at h1
              have h2 := HSG.out
              show ((val l : Int)) = z + z'
              omega
            rw [e6] at hRI
            have HRI := Lib.hid hRI
            have HB6 := Lib.hid (stepB HB5.out hB6)
            clear hRI hB6 e6
            obtain ⟨⟨p1, p2, p3, p4, p5, p6⟩, p7, p8, p9, p10⟩ := HW.out.keep HB6.out
            have HP10 := Lib.hid p10
            clear p10
            go_wp2_with fail
            exact bodyPost_ret (v := .agg #[.int .i64 s1, .bool n1, .slice A6 m6 c6]) (by simp [results, Tryz.results130, go_sem, *]) rfl (retI_box HRI.out HP10.out (HwX.out.trans (HB6.out.mono HwX.out.size)) (by omega))
        · have HSG := Lib.hid (And.intro (of_decide_eq_true HB1.out) (of_decide_eq_true HB2.out))
          go_wp2_with fail
          (with_reducible refine (sum_any A1 A2 l1.length l2.length c1 c2 l1 l2 w4 (by have := HN1.out; omega) (by have := HN2.out; omega) rfl rfl HC4.out.1 HC4.out.2 HDl1.out HDl2.out).mono ?_)
          rintro e w5 ⟨v, l, rfl, hl, hv, hB5⟩
          obtain ⟨A5, c5, rfl, hlc5, hd5, hC5⟩ := hl
          have HV := Lib.hid hv
          have HB5 := Lib.hid (stepB HR4.out hB5)
          have HLC5 := Lib.hid hlc5
          have HD5 := Lib.hid hd5
          have HC5 := Lib.hid hC5
          clear hv hB5 hlc5 hd5 hC5
          go_wp2_with fail
          (with_reducible refine (made_any true A5 l.length c5 l _ rfl HLC5.out.1 HLC5.out.2 HD5.out HC5.out).mono ?_)
          rintro e w6 ⟨s1, n1, A6, m6, c6, rfl, hRI, hB6⟩
          have e6 : sgz true (val l) = z + z' := by
            have h1 := HV.out
            rw [HP1.out.2, HP2.out.2] at h1
            have h2 := HSG.out
            show (-(val l : Int)) = z + z'
            omega
          rw [e6] at hRI
          have HRI := Lib.hid hRI
          have HB6 := Lib.hid (stepB HB5.out hB6)
          clear hRI hB6 e6
          obtain ⟨⟨p1, p2, p3, p4, p5, p6⟩, p7, p8, p9, p10⟩ := HW.out.keep HB6.out
          have HP10 := Lib.hid p10
          clear p10
          go_wp2_with fail
          exact bodyPost_ret (v := .agg #[.int .i64 s1, .bool n1, .slice A6 m6 c6]) (by simp [results, Tryz.results130, go_sem, *]) rfl (retI_box HRI.out HP10.out (HwX.out.trans (HB6.out.mono HwX.out.size)) (by omega))
theorem rplus_any (s s' : Int) (neg neg' : Bool) (A A' : Option Addr) (n c n' c' K : Nat) (z z' : Int) (w : World) (h : RI w s neg A n c z) (h' : RI w s' neg' A' n' c' z') (hK : K ≤ 250000) (hz : z.natAbs < Bs ^ K) (hz' : z'.natAbs < Bs ^ K) :
    Calls Tryz.prog 130 #[.agg #[.int .i64 s, .bool neg, .slice A n c], .agg #[.int .i64 s', .bool neg', .slice A' n' c']] w (RetI (z + z') w) := by
  by_cases hn : n = 0
  · by_cases hn' : n' = 0
    · obtain ⟨l, -, -, -, -, ⟨-, rfl, rfl, h1⟩ | ⟨h1, _⟩⟩ := h
      · obtain ⟨l', -, -, -, -, ⟨-, rfl, rfl, h2⟩ | ⟨h2, _⟩⟩ := h'
        · subst hn hn'
          exact rplus_small s s' A A' c c' w h1 h2
        · omega
      · omega
    · exact rplus_big s s' neg neg' A A' n c n' c' K z z' w h h' hK hz hz' (Or.inr ⟨by rw [hn]; rfl, by rw [beq_eq_false_iff_ne]; omega⟩)
  · exact rplus_big s s' neg neg' A A' n c n' c' K z z' w h h' hK hz hz' (Or.inl (by rw [beq_eq_false_iff_ne]; omega))
theorem rless_any (s s' : Int) (neg neg' : Bool) (A A' : Option Addr) (n c n' c' K : Nat) (z z' : Int) (w : World) (h : RI w s neg A n c z) (h' : RI w s' neg' A' n' c' z') (hK : K ≤ 250000) (hz : z.natAbs < Bs ^ K) (hz' : z'.natAbs < Bs ^ K) :
    Calls Tryz.prog 107 #[.agg #[.int .i64 s, .bool neg, .slice A n c], .agg #[.int .i64 s', .bool neg', .slice A' n' c']] w (RetI (z - z') w) := by
  have hn' := h'.len hz'
  have HM : Hid (∀ wx, Below w.heap.size w wx → Calls Tryz.prog 136 #[.agg #[.int .i64 s', .bool neg', .slice A' n' c']] wx (RetI (-z') wx)) := fun wx hb => rminus_any s' neg' A' n' c' z' wx (h'.keep hb) (by omega)
  have HP : Hid (∀ wx s1 n1 A1 m1 c1, Below w.heap.size w wx → RI wx s1 n1 A1 m1 c1 (-z') → Calls Tryz.prog 130 #[.agg #[.int .i64 s, .bool neg, .slice A n c], .agg #[.int .i64 s1, .bool n1, .slice A1 m1 c1]] wx (RetI (z - z') wx)) := fun wx s1 n1 A1 m1 c1 hb h1 => by
    rw [Int.sub_eq_add_neg]
    exact rplus_any s s1 neg n1 A A1 n c m1 c1 K z (-z') wx (h.keep hb) h1 hK hz (by rw [Int.natAbs_neg]; exact hz')
  clear h h' hn' hz hz' hK
  generalize z - z' = zz at HP ⊢
  go_enter Tryz.func107, Tryz.ntmps107
  go_upto_region 1 with fail
  obtain ⟨X, hX, hwX, hsX, ⟨k0, k1, k2, za⟩, ⟨j0, j1, j2, zb⟩, hW⟩ := boxesI w (.int .i64 s) (.bool neg) (.slice A n c) (.int .i64 s') (.bool neg') (.slice A' n' c')
  rw [hX]
  clear hX
  have HwX := Lib.hid hwX
  have HW := Lib.hid hW
  clear hsX hwX hW
  go_region_held3 (fun w' => w'.cell? ⟨w.heap.size, 0, none⟩ = some (.int .i64 s) ∧ w'.cell? ⟨w.heap.size, 1, none⟩ = some (.bool neg) ∧ w'.cell? ⟨w.heap.size, 2, none⟩ = some (.slice A n c) ∧ w'.cell? ⟨w.heap.size + 1, 0, none⟩ = some (.int .i64 s') ∧ w'.cell? ⟨w.heap.size + 1, 1, none⟩ = some (.bool neg') ∧ w'.cell? ⟨w.heap.size + 1, 2, none⟩ = some (.slice A' n' c')) (simp [go_sem, *])
    (first
      | (go_at_call 136; (with_reducible refine (HM.out _ (by repeat (first | exact HwX.out | refine Below.drew ?_))).mono ?_); rintro e w1 ⟨s1, n1, A1, m1, c1, rfl, hRI, hB1⟩; (have R1 : Below X.heap.size X w1 := by first | exact hB1 | exact below_undrew' hB1); have C1 := (bcell R1).1; have HR1 := Lib.hid R1; have HW1 := Lib.hid (HwX.out.trans (R1.mono HwX.out.size)); have HRI := Lib.hid hRI; clear hRI hB1 R1)
      | (go_at_call 130; (with_reducible refine (HP.out _ s1 n1 A1 m1 c1 (by repeat (first | exact HW1.out | refine Below.drew ?_)) (by first | exact HRI.out)).mono ?_); rintro e w2 ⟨s2, n2, A2, m2, c2, rfl, hRI2, hB2⟩; (have R2 : Below w1.heap.size w1 w2 := by first | exact hB2 | exact below_undrew' hB2); have HR2 := Lib.hid (stepB HR1.out R2); have C2 := (bcell HR2.out).1; have HRI2 := Lib.hid hRI2; clear C1; obtain ⟨⟨o1, o2, o3, o4, o5, o6⟩, q1, q2, q3, q4⟩ := HW.out.keep HR2.out; have HQ4 := Lib.hid q4; clear hRI2 hB2 R2 q4))
  all_goals go_wp2_with fail
  all_goals exact bodyPost_ret (v := .agg #[.int .i64 s2, .bool n2, .slice A2 m2 c2]) (by simp [results, Tryz.results107, go_sem, *]) rfl (retI_box HRI2.out HQ4.out (HwX.out.trans (HR2.out.mono HwX.out.size)) (by omega))
theorem sub_lt_pow {z z' : Int} {K : Nat} (hz : z.natAbs < Bs ^ K) (hz' : z'.natAbs < Bs ^ K) : (z - z').natAbs < Bs ^ (K + 1) := by
  have h1 := Int.natAbs_sub_le z z'
  rw [Nat.pow_succ, Bs_eq] at *
  omega
theorem rcompare_any (s s' : Int) (neg neg' : Bool) (A A' : Option Addr) (n c n' c' K : Nat) (z z' : Int) (w : World) (h : RI w s neg A n c z) (h' : RI w s' neg' A' n' c' z') (hK : K ≤ 250000) (hz : z.natAbs < Bs ^ K) (hz' : z'.natAbs < Bs ^ K) :
    Calls Tryz.prog 71 #[.agg #[.int .i64 s, .bool neg, .slice A n c], .agg #[.int .i64 s', .bool neg', .slice A' n' c']] w fun e w' => e = .returned (.int .i64 (sgnI (z - z'))) ∧ Below w.heap.size w w' := by
  have HL : Hid (∀ wx, Below w.heap.size w wx → Calls Tryz.prog 107 #[.agg #[.int .i64 s, .bool neg, .slice A n c], .agg #[.int .i64 s', .bool neg', .slice A' n' c']] wx (RetI (z - z') wx)) := fun wx hb => rless_any s s' neg neg' A A' n c n' c' K z z' wx (h.keep hb) (h'.keep hb) hK hz hz'
  have hzz := sub_lt_pow hz hz'
  have HS : Hid (∀ wx s1 n1 A1 m1 c1, RI wx s1 n1 A1 m1 c1 (z - z') → Calls Tryz.prog 108 #[.agg #[.int .i64 s1, .bool n1, .slice A1 m1 c1]] wx fun e w' => e = .returned (.int .i64 (sgnI (z - z'))) ∧ Below wx.heap.size wx w') := fun wx s1 n1 A1 m1 c1 h1 => rsign_any s1 n1 A1 m1 c1 _ wx h1 (by have := h1.len hzz; omega)
  generalize sgnI (z - z') = q at HS ⊢
  clear h h' hz hz' hzz hK
  go_enter Tryz.func71, Tryz.ntmps71
  go_wp2_with fail
  (with_reducible refine (HL.out _ (below_two w _ _)).mono ?_)
  rintro e w1 ⟨s1, n1, A1, m1, c1, rfl, hRI, hB⟩
  have HB := Lib.hid ((below_two w _ _).trans (hB.mono (below_two w _ _).size))
  have HRI := Lib.hid hRI
  clear hRI hB
  go_wp2_with fail
  (with_reducible refine (HS.out _ _ _ _ _ _ HRI.out).mono ?_)
  rintro e w2 ⟨rfl, hB2⟩
  have HB2 := Lib.hid (stepB HB.out hB2)
  clear hB2
  go_wp2_with fail
  go_ret
  exact ⟨rfl, HB2.out⟩
theorem rabs_any (s : Int) (neg : Bool) (A : Option Addr) (n c : Nat) (z : Int) (w : World) (h : RI w s neg A n c z) (hn : n ≤ 1000000) :
    Calls Tryz.prog 154 #[.agg #[.int .i64 s, .bool neg, .slice A n c]] w (RetI (z.natAbs : Int) w) := by
  have HR := Lib.hid h
  obtain ⟨q, hq⟩ : ∃ q, sgnI z = q := ⟨_, rfl⟩
  have HS : Hid (∀ wx, Below w.heap.size w wx → Calls Tryz.prog 108 #[.agg #[.int .i64 s, .bool neg, .slice A n c]] wx fun e w' => e = .returned (.int .i64 q) ∧ Below wx.heap.size wx w') := fun wx hb => by
    rw [← hq]; exact rsign_any s neg A n c z wx (h.keep hb) hn
  have HM : Hid (∀ wx, Below w.heap.size w wx → Calls Tryz.prog 136 #[.agg #[.int .i64 s, .bool neg, .slice A n c]] wx (RetI (-z) wx)) := fun wx hb => rminus_any s neg A n c z wx (h.keep hb) hn
  have hd : decide (q < 0) = decide (z < 0) := by rw [← hq, sgn_lt]
  clear h hn hq
  by_cases hz : z < 0
  · rw [decide_eq_true hz] at hd
    have e : (z.natAbs : Int) = -z := by omega
    rw [e]
    clear e hz
    go_enter Tryz.func154, Tryz.ntmps154
    go_upto_region 1 with fail
    generalize hX : (w.alloc _).alloc _ = X
    have HX : Hid (Below w.heap.size w X ∧ W3 (w.heap.size + 1) X) := by
      subst hX
      exact ⟨below_two w _ _, W3.new _ _ _ _ (by simp)⟩
    obtain ⟨k0, k1, k2, za⟩ : B3 w.heap.size (.int .i64 s) (.bool neg) (.slice A n c) X := by
      subst hX
      simp [B3, go_sem]
    clear hX
    go_wp2_with fail
    (with_reducible refine (HS.out _ HX.out.1).mono ?_)
    rintro e w1 ⟨rfl, hB⟩
    have C1 := (bcell hB).1
    have HB := Lib.hid hB
    clear hB
    go_wp2_with fail
    (with_reducible refine (HM.out _ (stepB HX.out.1 HB.out)).mono ?_)
    rintro e w2 ⟨s2, n2, A2, m2, c2, rfl, hRI, hB2⟩
    have HB2 := Lib.hid (stepB HB.out hB2)
    have HRI := Lib.hid hRI
    obtain ⟨⟨o1, o2, o3, o4, o5, o6⟩, q1, q2, q3, q4⟩ := HX.out.2.keep HB2.out
    have HQ4 := Lib.hid q4
    clear hRI hB2 q4 C1 k0 k1 k2
    go_wp2_with fail
    exact bodyPost_ret (v := .agg #[.int .i64 s2, .bool n2, .slice A2 m2 c2]) (by simp [results, Tryz.results154, go_sem, *]) rfl (retI_box HRI.out HQ4.out (stepB HX.out.1 HB2.out) (by omega))
  · rw [decide_eq_false hz] at hd
    have e : (z.natAbs : Int) = z := by omega
    rw [e]
    clear e hz
    go_enter Tryz.func154, Tryz.ntmps154
    go_upto_region 1 with fail
    generalize hX : (w.alloc _).alloc _ = X
    have HX : Hid (Below w.heap.size w X ∧ W3 (w.heap.size + 1) X) := by
      subst hX
      exact ⟨below_two w _ _, W3.new _ _ _ _ (by simp)⟩
    obtain ⟨k0, k1, k2, za⟩ : B3 w.heap.size (.int .i64 s) (.bool neg) (.slice A n c) X := by
      subst hX
      simp [B3, go_sem]
    clear hX
    go_wp2_with fail
    (with_reducible refine (HS.out _ HX.out.1).mono ?_)
    rintro e w1 ⟨rfl, hB⟩
    have C1 := (bcell hB).1
    have HB := Lib.hid hB
    obtain ⟨⟨o1, o2, o3, o4, o5, o6⟩, q1, q2, q3, q4⟩ := HX.out.2.keep hB
    have HQ4 := Lib.hid q4
    clear hB q4
    go_wp2_with fail
    exact bodyPost_ret (v := .agg #[.int .i64 s, .bool neg, .slice A n c]) (by simp [results, Tryz.results154, go_sem, *]) rfl (retI_box (HR.out.keep (stepB HX.out.1 HB.out)) HQ4.out (stepB HX.out.1 HB.out) (by omega))
end Go.Proofs.YtmfnpipmbpnfbaaGreatDoor
