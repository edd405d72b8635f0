/- The sum of integers of the reference in memory. Differences, order and absolute values of integers of the reference in memory. The product of integers of the reference in memory. The division of lists of digits of the reference: plain facts, and rows that are written in place. The division of lists of digits of the reference in memory. The division of lists of digits of the reference in memory: all sizes. Quotient and remainder of integers of the reference in memory. -/
import Derived.Test.YtfhmhkbjcccejaaMRa
import Derived.Deep.RegionHeld3
import Derived.Test.YtfhmhkbjcccejaaMRat3
import Derived.Laws.CopyOwn
import Derived.Deep.RegionLawGrows
import Derived.Deep.RegionWith
import Derived.BigRegion

namespace Go.Proofs.Ytfhmhkbjcccejaa
open Go.RowKit

theorem rof_any (n : Int) (w : World) (h1 : -9223372036854775808 ≤ n) (h2 : n ≤ 9223372036854775807) : Calls Try.prog 29 #[.int .i64 n] w (RetI n w) := by
  by_cases h : n.natAbs < Edge
  · exact rof_small n w h
  · rcases Int.le_total 0 n with h0 | h0
    · obtain ⟨x, rfl⟩ := Int.eq_ofNat_of_zero_le h0
      exact rof_pos x w (by omega) (by omega)
    · exact (by
        have := rof_neg n.natAbs n (by omega) w (by omega) (by omega)
        exact this)

/-- Two boxes for the arguments, one for the result. -/
theorem boxesI (w : World) (p q r p' q' r' : Value) : ∃ X, ((w.alloc (.cells #[p, q, r] 36)).alloc (.cells #[p', q', r'] 36)).alloc (.cells #[.int .i64 0, .bool false, .slice none 0 0] 36) = X ∧
    Below w.heap.size w X ∧ X.heap.size = w.heap.size + 3 ∧ B3 w.heap.size p q r X ∧ B3 (w.heap.size + 1) p' q' r' X ∧ W3 (w.heap.size + 1 + 1) X :=
  ⟨_, rfl, (((Below.refl _ _).alloc (Nat.le_refl _) _).alloc (by simp) _).alloc (by simp; omega) _, by simp, by simp [B3, go_sem], by simp [B3, go_sem], W3.new _ _ _ _ (by simp)⟩

theorem sgn_lt (z : Int) : decide (sgnI z < 0) = decide (z < 0) := by
  unfold sgnI
  by_cases h : z < 0
  · simp [h]
  · rw [if_neg h]
    split <;> simp [h]

theorem len_of_val {l : List Nat} {z : Int} {K : Nat} (hz : Nz l) (hv : val l = z.natAbs) (hK : z.natAbs < Bs ^ K) : l.length ≤ K := len_le hz (by rw [hv]; exact hK)

set_option maxRecDepth 100000 in
set_option maxHeartbeats 4000000 in
theorem rplus_small (s s' : Int) (A A' : Option Addr) (c c' : Nat) (w : World) (h : s.natAbs < Edge) (h' : s'.natAbs < Edge) :
    Calls Try.prog 79 #[.agg #[.int .i64 s, .bool false, .slice A 0 c], .agg #[.int .i64 s', .bool false, .slice A' 0 c']] w (RetI (s + s') w) := by
  rw [Edge_eq] at h h'
  have HO : Hid (∀ wx, Calls Try.prog 29 #[.int .i64 (s + s')] wx (RetI (s + s') wx)) := fun wx => rof_any _ wx (by omega) (by omega)
  have hw : IntKind.i64.wrap (s + s') = s + s' := IntWalk.i64_in _ (by omega)
  have b1 : -2305843009213693952 < s := by omega
  have b2 : s < 2305843009213693952 := by omega
  have b3 : -2305843009213693952 < s' := by omega
  have b4 : s' < 2305843009213693952 := by omega
  clear h h'
  go_enter Try.func79, Try.ntmps79
  go_upto_region 1 with fail
  obtain ⟨X, hX, hwX, hz, ⟨k0, k1, k2, -⟩, ⟨j0, j1, j2, -⟩, hW⟩ := boxesI w (.int .i64 s) (.bool false) (.slice A 0 c) (.int .i64 s') (.bool false) (.slice A' 0 c')
  rw [hX]
  clear hX
  have HZ := Lib.hid hz
  clear hz
  go_wp2_with fail
  (with_reducible refine (HO.out _).mono ?_)
  rintro e w1 ⟨s1, n1, A1, m1, c1, rfl, hRI, hB⟩
  obtain ⟨⟨p1, p2, p3, p4, p5, p6⟩, p7, p8, p9, p10⟩ := hW.keep hB
  have hT := hwX.trans (hB.mono hwX.size)
  have H1 := Lib.hid hRI
  have H2 := Lib.hid p10
  have H3 := Lib.hid hT
  clear hRI p10 hT hB k0 k1 k2 j0 j1 j2
  go_wp2_with fail
  exact bodyPost_ret (v := .agg #[.int .i64 s1, .bool n1, .slice A1 m1 c1]) (by simp [results, Try.results79, go_sem, *]) rfl (retI_box H1.out H2.out H3.out (by omega))

theorem len_le_of_val {a b : List Nat} (ha : Dl a) (hb : Nz b) (h : val b ≤ val a) : b.length ≤ a.length := by
  rcases Nat.lt_or_ge a.length b.length with h1 | h1
  · have := lt_of_len ha hb h1; omega
  · exact h1
theorem cmp_ge_of {x y : Nat} (h : y ≤ x) : decide (0 ≤ cmpN x y) = true := by
  unfold cmpN
  rw [if_neg (by omega)]
  split <;> decide
theorem cmp_lt_of {x y : Nat} (h : x < y) : decide (0 ≤ cmpN x y) = false := by
  unfold cmpN
  rw [if_pos h]
  decide

/-- What is added: lists of at most 300000 digits. -/
theorem made_anyP (neg : Bool) (A : Option Addr) (n c : Nat) (l0 : List Nat) (w : World) (hl0 : l0.length = n) (hn : n ≤ c) (hd0 : Dl l0) (hA : Lc w A l0) (hc : c ≤ 9223372036854775807) :
    Calls Try.prog 63 #[.bool neg, .slice A n c] w (RetI (sgz neg (val l0)) w) := made_any neg A n c l0 w hl0 hn hc hd0 hA

set_option maxRecDepth 100000 in
set_option maxHeartbeats 20000000 in
theorem rplus_big (s s' : Int) (neg neg' : Bool) (A A' : Option Addr) (n c n' c' K : Nat) (z z' : Int) (w : World) (h : RI w s neg A n c z) (h' : RI w s' neg' A' n' c' z') (hK : K ≤ 250000) (hz : z.natAbs < Bs ^ K) (hz' : z'.natAbs < Bs ^ K)
    (hg : (((n : Int) == 0) = false) ∨ ((((n : Int) == 0) = true) ∧ (((n' : Int) == 0) = false))) :
    Calls Try.prog 79 #[.agg #[.int .i64 s, .bool neg, .slice A n c], .agg #[.int .i64 s', .bool neg', .slice A' n' c']] w (RetI (z + z') w) := by
  have hn := h.len hz
  have hn' := h'.len hz'
  have HL1 : Hid (∀ wx, Below w.heap.size w wx → Calls Try.prog 62 #[.agg #[.int .i64 s, .bool neg, .slice A n c]] wx (RetL (fun l => Nz l ∧ val l = z.natAbs) wx)) := fun wx hb => rlist_any s neg A n c z wx (h.keep hb) (by omega)
  have HL2 : Hid (∀ wx, Below w.heap.size w wx → Calls Try.prog 62 #[.agg #[.int .i64 s', .bool neg', .slice A' n' c']] wx (RetL (fun l => Nz l ∧ val l = z'.natAbs) wx)) := fun wx hb => rlist_any s' neg' A' n' c' z' wx (h'.keep hb) (by omega)
  obtain ⟨b1, hb1⟩ : ∃ b1, decide (z < 0) = b1 := ⟨_, rfl⟩
  obtain ⟨b2, hb2⟩ : ∃ b2, decide (z' < 0) = b2 := ⟨_, rfl⟩
  obtain ⟨q1, hq1⟩ : ∃ q1, sgnI z = q1 := ⟨_, rfl⟩
  obtain ⟨q2, hq2⟩ : ∃ q2, sgnI z' = q2 := ⟨_, rfl⟩
  have HS1 : Hid (∀ wx, Below w.heap.size w wx → Calls Try.prog 59 #[.agg #[.int .i64 s, .bool neg, .slice A n c]] wx fun e w' => e = .returned (.int .i64 q1) ∧ Below wx.heap.size wx w') := fun wx hb => by
    rw [← hq1]; exact rsign_any s neg A n c z wx (h.keep hb) (by omega)
  have HS2 : Hid (∀ wx, Below w.heap.size w wx → Calls Try.prog 59 #[.agg #[.int .i64 s', .bool neg', .slice A' n' c']] wx fun e w' => e = .returned (.int .i64 q2) ∧ Below wx.heap.size wx w') := fun wx hb => by
    rw [← hq2]; exact rsign_any s' neg' A' n' c' z' wx (h'.keep hb) (by omega)
  have hd1 : decide (q1 < 0) = b1 := by rw [← hq1, sgn_lt]; exact hb1
  have hd2 : decide (q2 < 0) = b2 := by rw [← hq2, sgn_lt]; exact hb2
  have HB1 := Lib.hid hb1
  have HB2 := Lib.hid hb2
  have HZ1 := Lib.hid hz
  have HZ2 := Lib.hid hz'
  have HK := Lib.hid hK
  have HD1 := Lib.hid hd1
  have HD2 := Lib.hid hd2
  clear h h' hn hn' hb1 hb2 hq1 hq2 hz hz' hK hd1 hd2
  rcases hg with g1 | ⟨g1, g2⟩
  all_goals
    go_enter Try.func79, Try.ntmps79
    go_upto_region 1 with fail
    obtain ⟨X, hX, hwX, hsX, ⟨k0, k1, k2, za⟩, ⟨j0, j1, j2, zb⟩, hW⟩ := boxesI w (.int .i64 s) (.bool neg) (.slice A n c) (.int .i64 s') (.bool neg') (.slice A' n' c')
    rw [hX]
    clear hX
    have HSX := Lib.hid hsX
    have HwX := Lib.hid hwX
    have HW := Lib.hid hW
    clear hsX hwX hW
    go_upto_region 3 with fail
    go_region_held3 (fun w' => w'.cell? ⟨w.heap.size, 0, none⟩ = some (.int .i64 s) ∧ w'.cell? ⟨w.heap.size, 1, none⟩ = some (.bool neg) ∧ w'.cell? ⟨w.heap.size, 2, none⟩ = some (.slice A n c) ∧ w'.cell? ⟨w.heap.size + 1, 0, none⟩ = some (.int .i64 s') ∧ w'.cell? ⟨w.heap.size + 1, 1, none⟩ = some (.bool neg') ∧ w'.cell? ⟨w.heap.size + 1, 2, none⟩ = some (.slice A' n' c')) (simp [go_sem, *])
      (first
        | (go_at_call 62; (with_reducible refine (HL1.out _ (by repeat (first | exact HwX.out | exact HW1.out | exact HW2.out | exact HW3.out | refine Below.drew ?_))).mono ?_); rintro e w1 ⟨v1, l1, rfl, hl1, hp1, hB1⟩; obtain ⟨A1, c1, rfl, hlc1, hdl1, hC1⟩ := hl1; (have R1 : Below X.heap.size X w1 := by first | exact hB1 | exact below_undrew' hB1); have C1 := (bcell R1).1; have HR1 := Lib.hid R1; have HW1 := Lib.hid (HwX.out.trans (R1.mono HwX.out.size)); have HC1a := Lib.hid hC1; have HDl1 := Lib.hid hdl1; have HLC1 := Lib.hid hlc1; have HP1 := Lib.hid hp1; clear R1 hC1 hdl1 hlc1 hp1 hB1)
        | (go_at_call 62; (with_reducible refine (HL2.out _ (by repeat (first | exact HwX.out | exact HW1.out | exact HW2.out | exact HW3.out | refine Below.drew ?_))).mono ?_); rintro e w2 ⟨v2, l2, rfl, hl2, hp2, hB2⟩; obtain ⟨A2, c2, rfl, hlc2, hdl2, hC2⟩ := hl2; (have R2 : Below w1.heap.size w1 w2 := by first | exact hB2 | exact below_undrew' hB2); have HR2 := Lib.hid (stepB HR1.out R2); have C2 := (bcell HR2.out).1; have HW2 := Lib.hid (HwX.out.trans (HR2.out.mono HwX.out.size)); have HC1 := Lib.hid (HC1a.out.keep R2); have HC2 := Lib.hid hC2; have HDl2 := Lib.hid hdl2; have HLC2 := Lib.hid hlc2; have HP2 := Lib.hid hp2; clear C1 R2 hC2 hdl2 hlc2 hp2 hB2))
    all_goals go_upto_region 4 with fail
    all_goals
      have hd1 := HD1.out
      have hd2 := HD2.out
      go_region_held3 (fun w' => w'.cell? ⟨w.heap.size, 0, none⟩ = some (.int .i64 s) ∧ w'.cell? ⟨w.heap.size, 1, none⟩ = some (.bool neg) ∧ w'.cell? ⟨w.heap.size, 2, none⟩ = some (.slice A n c) ∧ w'.cell? ⟨w.heap.size + 1, 0, none⟩ = some (.int .i64 s') ∧ w'.cell? ⟨w.heap.size + 1, 1, none⟩ = some (.bool neg') ∧ w'.cell? ⟨w.heap.size + 1, 2, none⟩ = some (.slice A' n' c')) (simp [go_sem, *])
        (first
          | (go_at_call 59; (with_reducible refine (HS1.out _ (by repeat (first | exact HwX.out | exact HW1.out | exact HW2.out | exact HW3.out | refine Below.drew ?_))).mono ?_); rintro e w3 ⟨rfl, hB3⟩; (have R3 : Below w2.heap.size w2 w3 := by first | exact hB3 | exact below_undrew' hB3); have HR3 := Lib.hid (stepB HR2.out R3); have C3 := (bcell HR3.out).1; have HW3 := Lib.hid (HwX.out.trans (HR3.out.mono HwX.out.size)); have HC3 := Lib.hid (And.intro (HC1.out.keep R3) (HC2.out.keep R3)); clear C2 R3 hB3)
          | (go_at_call 59; (with_reducible refine (HS2.out _ (by repeat (first | exact HwX.out | exact HW1.out | exact HW2.out | exact HW3.out | refine Below.drew ?_))).mono ?_); rintro e w4 ⟨rfl, hB4⟩; (have R4 : Below w3.heap.size w3 w4 := by first | exact hB4 | exact below_undrew' hB4); have HR4 := Lib.hid (stepB HR3.out R4); have C4 := (bcell HR4.out).1; have HW4 := Lib.hid (HwX.out.trans (HR4.out.mono HwX.out.size)); have HC4 := Lib.hid (And.intro (HC3.out.1.keep R4) (HC3.out.2.keep R4)); clear C3 R4 hB4))
      all_goals
        clear hd1 hd2 k0 k1 k2 j0 j1 j2 C4
        have HN1 := Lib.hid (Nat.le_trans (len_of_val HP1.out.1 HP1.out.2 HZ1.out) HK.out)
        have HN2 := Lib.hid (Nat.le_trans (len_of_val HP2.out.1 HP2.out.2 HZ2.out) HK.out)
        cases b1 <;> cases b2
        · have HSG := Lib.hid (And.intro (of_decide_eq_false HB1.out) (of_decide_eq_false HB2.out))
          go_wp2_with fail
          (with_reducible refine (sum_any A1 A2 l1.length l2.length c1 c2 l1 l2 w4 (by have := HN1.out; omega) (by have := HN2.out; omega) rfl rfl HC4.out.1 HC4.out.2 HDl1.out HDl2.out).mono ?_)
          rintro e w5 ⟨v, l, rfl, hl, hv, hB5⟩
          obtain ⟨A5, c5, rfl, hlc5, hd5, hC5⟩ := hl
          have HV := Lib.hid hv
          have HB5 := Lib.hid (stepB HR4.out hB5)
          have HLC5 := Lib.hid hlc5
          have HD5 := Lib.hid hd5
          have HC5 := Lib.hid hC5
          clear hv hB5 hlc5 hd5 hC5
          go_wp2_with fail
          (with_reducible refine (made_any false A5 l.length c5 l _ rfl HLC5.out.1 HLC5.out.2 HD5.out HC5.out).mono ?_)
          rintro e w6 ⟨s1, n1, A6, m6, c6, rfl, hRI, hB6⟩
          have e6 : sgz false (val l) = z + z' := by
            have h1 := HV.out
            rw [HP1.out.2, HP2.out.2] at h1
            have h2 := HSG.out
            show ((val l : Int)) = z + z'
            omega
          rw [e6] at hRI
          have HRI := Lib.hid hRI
          have HB6 := Lib.hid (stepB HB5.out hB6)
          clear hRI hB6 e6
          obtain ⟨⟨p1, p2, p3, p4, p5, p6⟩, p7, p8, p9, p10⟩ := HW.out.keep HB6.out
          have HP10 := Lib.hid p10
          clear p10
          go_wp2_with fail
          exact bodyPost_ret (v := .agg #[.int .i64 s1, .bool n1, .slice A6 m6 c6]) (by simp [results, Try.results79, go_sem, *]) rfl (retI_box HRI.out HP10.out (HwX.out.trans (HB6.out.mono HwX.out.size)) (by omega))
        · have HSG := Lib.hid (And.intro (of_decide_eq_false HB1.out) (of_decide_eq_true HB2.out))
          obtain ⟨q, hq⟩ : ∃ q, cmpN (val l1) (val l2) = q := ⟨_, rfl⟩
          have HQ := Lib.hid hq
          clear hq
          by_cases hle : val l2 ≤ val l1
          · have HVE : Hid (val l2 ≤ val l1) := hle
            have HLE : Hid (l2.length ≤ l1.length) := len_le_of_val HDl1.out HP2.out.1 HVE.out
            have hq0 : decide (0 ≤ q) = true := by rw [← HQ.out]; exact cmp_ge_of hle
            go_wp2_with fail
            (with_reducible refine (rcmp_any A1 A2 l1.length l2.length c1 c2 l1 l2 w4 (by have := HN1.out; omega) rfl rfl HC4.out.1 HC4.out.2 HDl1.out HDl2.out HP1.out.1 HP2.out.1).mono ?_)
            rintro e wd ⟨rfl, hdr⟩
            have HRd := Lib.hid (stepB HR4.out (hdr.below _))
            have HCd := Lib.hid (And.intro (hdr.lc HC4.out.1) (hdr.lc HC4.out.2))
            clear hdr
            rw [HQ.out]
            go_wp2_with fail
            (with_reducible refine (dif_any A1 A2 l1.length l2.length c1 c2 l1 l2 wd (by have := HN1.out; omega) HLE.out rfl rfl (HCd.out.1) (HCd.out.2) HDl1.out HDl2.out HVE.out).mono ?_)
            rintro e w5 ⟨v, l, rfl, hl, ⟨-, hv⟩, hB5⟩
            obtain ⟨A5, c5, rfl, hlc5, hd5, hC5⟩ := hl
            have HV := Lib.hid hv
            have HB5 := Lib.hid (stepB HRd.out hB5)
            have HLC5 := Lib.hid hlc5
            have HD5 := Lib.hid hd5
            have HC5 := Lib.hid hC5
            clear hv hB5 hlc5 hd5 hC5
            go_wp2_with fail
            (with_reducible refine (made_any false A5 l.length c5 l _ rfl HLC5.out.1 HLC5.out.2 HD5.out HC5.out).mono ?_)
            rintro e w6 ⟨s1, n1, A6, m6, c6, rfl, hRI, hB6⟩
            have e6 : sgz false (val l) = z + z' := by
              have h1 := HV.out
              rw [HP1.out.2, HP2.out.2] at h1
              have h2 := HSG.out
              show ((val l : Int)) = z + z'
              omega
            rw [e6] at hRI
            have HRI := Lib.hid hRI
            have HB6 := Lib.hid (stepB HB5.out hB6)
            clear hRI hB6 e6
            obtain ⟨⟨p1, p2, p3, p4, p5, p6⟩, p7, p8, p9, p10⟩ := HW.out.keep HB6.out
            have HP10 := Lib.hid p10
            clear p10
            go_wp2_with fail
            exact bodyPost_ret (v := .agg #[.int .i64 s1, .bool n1, .slice A6 m6 c6]) (by simp [results, Try.results79, go_sem, *]) rfl (retI_box HRI.out HP10.out (HwX.out.trans (HB6.out.mono HwX.out.size)) (by omega))
          · have HVE : Hid (val l1 ≤ val l2) := (Nat.le_of_lt (Nat.lt_of_not_le hle))
            have HLE : Hid (l1.length ≤ l2.length) := len_le_of_val HDl2.out HP1.out.1 HVE.out
            have hq0 : decide (0 ≤ q) = false := by rw [← HQ.out]; exact cmp_lt_of (Nat.lt_of_not_le hle)
            go_wp2_with fail
            (with_reducible refine (rcmp_any A1 A2 l1.length l2.length c1 c2 l1 l2 w4 (by have := HN1.out; omega) rfl rfl HC4.out.1 HC4.out.2 HDl1.out HDl2.out HP1.out.1 HP2.out.1).mono ?_)
            rintro e wd ⟨rfl, hdr⟩
            have HRd := Lib.hid (stepB HR4.out (hdr.below _))
            have HCd := Lib.hid (And.intro (hdr.lc HC4.out.1) (hdr.lc HC4.out.2))
            clear hdr
            rw [HQ.out]
            go_wp2_with fail
            (with_reducible refine (dif_any A2 A1 l2.length l1.length c2 c1 l2 l1 wd (by have := HN2.out; omega) HLE.out rfl rfl (HCd.out.2) (HCd.out.1) HDl2.out HDl1.out HVE.out).mono ?_)
            rintro e w5 ⟨v, l, rfl, hl, ⟨-, hv⟩, hB5⟩
            obtain ⟨A5, c5, rfl, hlc5, hd5, hC5⟩ := hl
            have HV := Lib.hid hv
            have HB5 := Lib.hid (stepB HRd.out hB5)
            have HLC5 := Lib.hid hlc5
            have HD5 := Lib.hid hd5
            have HC5 := Lib.hid hC5
            clear hv hB5 hlc5 hd5 hC5
            go_wp2_with fail
            (with_reducible refine (made_any true A5 l.length c5 l _ rfl HLC5.out.1 HLC5.out.2 HD5.out HC5.out).mono ?_)
            rintro e w6 ⟨s1, n1, A6, m6, c6, rfl, hRI, hB6⟩
            have e6 : sgz true (val l) = z + z' := by
              have h1 := HV.out
              rw [HP1.out.2, HP2.out.2] at h1
              have h2 := HSG.out
              show (-(val l : Int)) = z + z'
              omega
            rw [e6] at hRI
            have HRI := Lib.hid hRI
            have HB6 := Lib.hid (stepB HB5.out hB6)
            clear hRI hB6 e6
            obtain ⟨⟨p1, p2, p3, p4, p5, p6⟩, p7, p8, p9, p10⟩ := HW.out.keep HB6.out
            have HP10 := Lib.hid p10
            clear p10
            go_wp2_with fail
            exact bodyPost_ret (v := .agg #[.int .i64 s1, .bool n1, .slice A6 m6 c6]) (by simp [results, Try.results79, go_sem, *]) rfl (retI_box HRI.out HP10.out (HwX.out.trans (HB6.out.mono HwX.out.size)) (by omega))
        · have HSG := Lib.hid (And.intro (of_decide_eq_true HB1.out) (of_decide_eq_false HB2.out))
          obtain ⟨q, hq⟩ : ∃ q, cmpN (val l1) (val l2) = q := ⟨_, rfl⟩
          have HQ := Lib.hid hq
          clear hq
          by_cases hle : val l2 ≤ val l1
          · have HVE : Hid (val l2 ≤ val l1) := hle
            have HLE : Hid (l2.length ≤ l1.length) := len_le_of_val HDl1.out HP2.out.1 HVE.out
            have hq0 : decide (0 ≤ q) = true := by rw [← HQ.out]; exact cmp_ge_of hle
            go_wp2_with fail
            (with_reducible refine (rcmp_any A1 A2 l1.length l2.length c1 c2 l1 l2 w4 (by have := HN1.out; omega) rfl rfl HC4.out.1 HC4.out.2 HDl1.out HDl2.out HP1.out.1 HP2.out.1).mono ?_)
            rintro e wd ⟨rfl, hdr⟩
            have HRd := Lib.hid (stepB HR4.out (hdr.below _))
            have HCd := Lib.hid (And.intro (hdr.lc HC4.out.1) (hdr.lc HC4.out.2))
            clear hdr
            rw [HQ.out]
            go_wp2_with fail
            (with_reducible refine (dif_any A1 A2 l1.length l2.length c1 c2 l1 l2 wd (by have := HN1.out; omega) HLE.out rfl rfl (HCd.out.1) (HCd.out.2) HDl1.out HDl2.out HVE.out).mono ?_)
            rintro e w5 ⟨v, l, rfl, hl, ⟨-, hv⟩, hB5⟩
            obtain ⟨A5, c5, rfl, hlc5, hd5, hC5⟩ := hl
            have HV := Lib.hid hv
            have HB5 := Lib.hid (stepB HRd.out hB5)
            have HLC5 := Lib.hid hlc5
            have HD5 := Lib.hid hd5
            have HC5 := Lib.hid hC5
            clear hv hB5 hlc5 hd5 hC5
            go_wp2_with fail
            (with_reducible refine (made_any true A5 l.length c5 l _ rfl HLC5.out.1 HLC5.out.2 HD5.out HC5.out).mono ?_)
            rintro e w6 ⟨s1, n1, A6, m6, c6, rfl, hRI, hB6⟩
            have e6 : sgz true (val l) = z + z' := by
              have h1 := HV.out
              rw [HP1.out.2, HP2.out.2] at h1
              have h2 := HSG.out
              show (-(val l : Int)) = z + z'
              omega
            rw [e6] at hRI
            have HRI := Lib.hid hRI
            have HB6 := Lib.hid (stepB HB5.out hB6)
            clear hRI hB6 e6
            obtain ⟨⟨p1, p2, p3, p4, p5, p6⟩, p7, p8, p9, p10⟩ := HW.out.keep HB6.out
            have HP10 := Lib.hid p10
            clear p10
            go_wp2_with fail
            exact bodyPost_ret (v := .agg #[.int .i64 s1, .bool n1, .slice A6 m6 c6]) (by simp [results, Try.results79, go_sem, *]) rfl (retI_box HRI.out HP10.out (HwX.out.trans (HB6.out.mono HwX.out.size)) (by omega))
          · have HVE : Hid (val l1 ≤ val l2) := (Nat.le_of_lt (Nat.lt_of_not_le hle))
            have HLE : Hid (l1.length ≤ l2.length) := len_le_of_val HDl2.out HP1.out.1 HVE.out
            have hq0 : decide (0 ≤ q) = false := by rw [← HQ.out]; exact cmp_lt_of (Nat.lt_of_not_le hle)
            go_wp2_with fail
            (with_reducible refine (rcmp_any A1 A2 l1.length l2.length c1 c2 l1 l2 w4 (by have := HN1.out; omega) rfl rfl HC4.out.1 HC4.out.2 HDl1.out HDl2.out HP1.out.1 HP2.out.1).mono ?_)
            rintro e wd ⟨rfl, hdr⟩
            have HRd := Lib.hid (stepB HR4.out (hdr.below _))
            have HCd := Lib.hid (And.intro (hdr.lc HC4.out.1) (hdr.lc HC4.out.2))
            clear hdr
            rw [HQ.out]
            go_wp2_with fail
            (with_reducible refine (dif_any A2 A1 l2.length l1.length c2 c1 l2 l1 wd (by have := HN2.out; omega) HLE.out rfl rfl (HCd.out.2) (HCd.out.1) HDl2.out HDl1.out HVE.out).mono ?_)
            rintro e w5 ⟨v, l, rfl, hl, ⟨-, hv⟩, hB5⟩
            obtain ⟨A5, c5, rfl, hlc5, hd5, hC5⟩ := hl
            have HV := Lib.hid hv
            have HB5 := Lib.hid (stepB HRd.out hB5)
            have HLC5 := Lib.hid hlc5
            have HD5 := Lib.hid hd5
            have HC5 := Lib.hid hC5
            clear hv hB5 hlc5 hd5 hC5
            go_wp2_with fail
            (with_reducible refine (made_any false A5 l.length c5 l _ rfl HLC5.out.1 HLC5.out.2 HD5.out HC5.out).mono ?_)
            rintro e w6 ⟨s1, n1, A6, m6, c6, rfl, hRI, hB6⟩
            have e6 : sgz false (val l) = z + z' := by
              have h1 := HV.out
              rw [HP1.out.2, HP2.out.2] at h1
              have h2 := HSG.out
              show ((val l : Int)) = z + z'
              omega
            rw [e6] at hRI
            have HRI := Lib.hid hRI
            have HB6 := Lib.hid (stepB HB5.out hB6)
            clear hRI hB6 e6
            obtain ⟨⟨p1, p2, p3, p4, p5, p6⟩, p7, p8, p9, p10⟩ := HW.out.keep HB6.out
            have HP10 := Lib.hid p10
            clear p10
            go_wp2_with fail
            exact bodyPost_ret (v := .agg #[.int .i64 s1, .bool n1, .slice A6 m6 c6]) (by simp [results, Try.results79, go_sem, *]) rfl (retI_box HRI.out HP10.out (HwX.out.trans (HB6.out.mono HwX.out.size)) (by omega))
        · have HSG := Lib.hid (And.intro (of_decide_eq_true HB1.out) (of_decide_eq_true HB2.out))
          go_wp2_with fail
          (with_reducible refine (sum_any A1 A2 l1.length l2.length c1 c2 l1 l2 w4 (by have := HN1.out; omega) (by have := HN2.out; omega) rfl rfl HC4.out.1 HC4.out.2 HDl1.out HDl2.out).mono ?_)
          rintro e w5 ⟨v, l, rfl, hl, hv, hB5⟩
          obtain ⟨A5, c5, rfl, hlc5, hd5, hC5⟩ := hl
          have HV := Lib.hid hv
          have HB5 := Lib.hid (stepB HR4.out hB5)
          have HLC5 := Lib.hid hlc5
          have HD5 := Lib.hid hd5
          have HC5 := Lib.hid hC5
          clear hv hB5 hlc5 hd5 hC5
          go_wp2_with fail
          (with_reducible refine (made_any true A5 l.length c5 l _ rfl HLC5.out.1 HLC5.out.2 HD5.out HC5.out).mono ?_)
          rintro e w6 ⟨s1, n1, A6, m6, c6, rfl, hRI, hB6⟩
          have e6 : sgz true (val l) = z + z' := by
            have h1 := HV.out
            rw [HP1.out.2, HP2.out.2] at h1
            have h2 := HSG.out
            show (-(val l : Int)) = z + z'
            omega
          rw [e6] at hRI
          have HRI := Lib.hid hRI
          have HB6 := Lib.hid (stepB HB5.out hB6)
          clear hRI hB6 e6
          obtain ⟨⟨p1, p2, p3, p4, p5, p6⟩, p7, p8, p9, p10⟩ := HW.out.keep HB6.out
          have HP10 := Lib.hid p10
          clear p10
          go_wp2_with fail
          exact bodyPost_ret (v := .agg #[.int .i64 s1, .bool n1, .slice A6 m6 c6]) (by simp [results, Try.results79, go_sem, *]) rfl (retI_box HRI.out HP10.out (HwX.out.trans (HB6.out.mono HwX.out.size)) (by omega))

end Go.Proofs.Ytfhmhkbjcccejaa

namespace Go.Proofs.Ytfhmhkbjcccejaa
open Go.RowKit

theorem rplus_any (s s' : Int) (neg neg' : Bool) (A A' : Option Addr) (n c n' c' K : Nat) (z z' : Int) (w : World) (h : RI w s neg A n c z) (h' : RI w s' neg' A' n' c' z') (hK : K ≤ 250000) (hz : z.natAbs < Bs ^ K) (hz' : z'.natAbs < Bs ^ K) :
    Calls Try.prog 79 #[.agg #[.int .i64 s, .bool neg, .slice A n c], .agg #[.int .i64 s', .bool neg', .slice A' n' c']] w (RetI (z + z') w) := by
  by_cases hn : n = 0
  · by_cases hn' : n' = 0
    · obtain ⟨l, -, -, -, -, ⟨-, rfl, rfl, h1⟩ | ⟨h1, _⟩⟩ := h
      · obtain ⟨l', -, -, -, -, ⟨-, rfl, rfl, h2⟩ | ⟨h2, _⟩⟩ := h'
        · subst hn hn'
          exact rplus_small s s' A A' c c' w h1 h2
        · omega
      · omega
    · exact rplus_big s s' neg neg' A A' n c n' c' K z z' w h h' hK hz hz' (Or.inr ⟨by rw [hn]; rfl, by rw [beq_eq_false_iff_ne]; omega⟩)
  · exact rplus_big s s' neg neg' A A' n c n' c' K z z' w h h' hK hz hz' (Or.inl (by rw [beq_eq_false_iff_ne]; omega))

set_option maxRecDepth 100000 in
set_option maxHeartbeats 8000000 in
theorem rless_any (s s' : Int) (neg neg' : Bool) (A A' : Option Addr) (n c n' c' K : Nat) (z z' : Int) (w : World) (h : RI w s neg A n c z) (h' : RI w s' neg' A' n' c' z') (hK : K ≤ 250000) (hz : z.natAbs < Bs ^ K) (hz' : z'.natAbs < Bs ^ K) :
    Calls Try.prog 78 #[.agg #[.int .i64 s, .bool neg, .slice A n c], .agg #[.int .i64 s', .bool neg', .slice A' n' c']] w (RetI (z - z') w) := by
  have hn' := h'.len hz'
  have HM : Hid (∀ wx, Below w.heap.size w wx → Calls Try.prog 60 #[.agg #[.int .i64 s', .bool neg', .slice A' n' c']] wx (RetI (-z') wx)) := fun wx hb => rminus_any s' neg' A' n' c' z' wx (h'.keep hb) (by omega)
  have HP : Hid (∀ wx s1 n1 A1 m1 c1, Below w.heap.size w wx → RI wx s1 n1 A1 m1 c1 (-z') → Calls Try.prog 79 #[.agg #[.int .i64 s, .bool neg, .slice A n c], .agg #[.int .i64 s1, .bool n1, .slice A1 m1 c1]] wx (RetI (z - z') wx)) := fun wx s1 n1 A1 m1 c1 hb h1 => by
    rw [Int.sub_eq_add_neg]
    exact rplus_any s s1 neg n1 A A1 n c m1 c1 K z (-z') wx (h.keep hb) h1 hK hz (by rw [Int.natAbs_neg]; exact hz')
  clear h h' hn' hz hz' hK
  generalize z - z' = zz at HP ⊢
  go_enter Try.func78, Try.ntmps78
  go_upto_region 1 with fail
  obtain ⟨X, hX, hwX, hsX, ⟨k0, k1, k2, za⟩, ⟨j0, j1, j2, zb⟩, hW⟩ := boxesI w (.int .i64 s) (.bool neg) (.slice A n c) (.int .i64 s') (.bool neg') (.slice A' n' c')
  rw [hX]
  clear hX
  have HwX := Lib.hid hwX
  have HW := Lib.hid hW
  clear hsX hwX hW
  go_region_held3 (fun w' => w'.cell? ⟨w.heap.size, 0, none⟩ = some (.int .i64 s) ∧ w'.cell? ⟨w.heap.size, 1, none⟩ = some (.bool neg) ∧ w'.cell? ⟨w.heap.size, 2, none⟩ = some (.slice A n c) ∧ w'.cell? ⟨w.heap.size + 1, 0, none⟩ = some (.int .i64 s') ∧ w'.cell? ⟨w.heap.size + 1, 1, none⟩ = some (.bool neg') ∧ w'.cell? ⟨w.heap.size + 1, 2, none⟩ = some (.slice A' n' c')) (simp [go_sem, *])
    (first
      | (go_at_call 60; (with_reducible refine (HM.out _ (by repeat (first | exact HwX.out | refine Below.drew ?_))).mono ?_); rintro e w1 ⟨s1, n1, A1, m1, c1, rfl, hRI, hB1⟩; (have R1 : Below X.heap.size X w1 := by first | exact hB1 | exact below_undrew' hB1); have C1 := (bcell R1).1; have HR1 := Lib.hid R1; have HW1 := Lib.hid (HwX.out.trans (R1.mono HwX.out.size)); have HRI := Lib.hid hRI; clear hRI hB1 R1)
      | (go_at_call 79; (with_reducible refine (HP.out _ s1 n1 A1 m1 c1 (by repeat (first | exact HW1.out | refine Below.drew ?_)) (by first | exact HRI.out)).mono ?_); rintro e w2 ⟨s2, n2, A2, m2, c2, rfl, hRI2, hB2⟩; (have R2 : Below w1.heap.size w1 w2 := by first | exact hB2 | exact below_undrew' hB2); have HR2 := Lib.hid (stepB HR1.out R2); have C2 := (bcell HR2.out).1; have HRI2 := Lib.hid hRI2; clear C1; obtain ⟨⟨o1, o2, o3, o4, o5, o6⟩, q1, q2, q3, q4⟩ := HW.out.keep HR2.out; have HQ4 := Lib.hid q4; clear hRI2 hB2 R2 q4))
  all_goals go_wp2_with fail
  all_goals exact bodyPost_ret (v := .agg #[.int .i64 s2, .bool n2, .slice A2 m2 c2]) (by simp [results, Try.results78, go_sem, *]) rfl (retI_box HRI2.out HQ4.out (HwX.out.trans (HR2.out.mono HwX.out.size)) (by omega))

theorem lt_pow_mono {x K : Nat} (h : x < Bs ^ K) {M : Nat} (hM : K ≤ M) : x < Bs ^ M := Nat.lt_of_lt_of_le h (Nat.pow_le_pow_right Bs_pos hM)
theorem sub_lt_pow {z z' : Int} {K : Nat} (hz : z.natAbs < Bs ^ K) (hz' : z'.natAbs < Bs ^ K) : (z - z').natAbs < Bs ^ (K + 1) := by
  have h1 := Int.natAbs_sub_le z z'
  rw [Nat.pow_succ, Bs_eq] at *
  omega

set_option maxRecDepth 100000 in
set_option maxHeartbeats 4000000 in
theorem rcompare_any (s s' : Int) (neg neg' : Bool) (A A' : Option Addr) (n c n' c' K : Nat) (z z' : Int) (w : World) (h : RI w s neg A n c z) (h' : RI w s' neg' A' n' c' z') (hK : K ≤ 250000) (hz : z.natAbs < Bs ^ K) (hz' : z'.natAbs < Bs ^ K) :
    Calls Try.prog 47 #[.agg #[.int .i64 s, .bool neg, .slice A n c], .agg #[.int .i64 s', .bool neg', .slice A' n' c']] w fun e w' => e = .returned (.int .i64 (sgnI (z - z'))) ∧ Below w.heap.size w w' := by
  have HL : Hid (∀ wx, Below w.heap.size w wx → Calls Try.prog 78 #[.agg #[.int .i64 s, .bool neg, .slice A n c], .agg #[.int .i64 s', .bool neg', .slice A' n' c']] wx (RetI (z - z') wx)) := fun wx hb => rless_any s s' neg neg' A A' n c n' c' K z z' wx (h.keep hb) (h'.keep hb) hK hz hz'
  have hzz := sub_lt_pow hz hz'
  have HS : Hid (∀ wx s1 n1 A1 m1 c1, RI wx s1 n1 A1 m1 c1 (z - z') → Calls Try.prog 59 #[.agg #[.int .i64 s1, .bool n1, .slice A1 m1 c1]] wx fun e w' => e = .returned (.int .i64 (sgnI (z - z'))) ∧ Below wx.heap.size wx w') := fun wx s1 n1 A1 m1 c1 h1 => rsign_any s1 n1 A1 m1 c1 _ wx h1 (by have := h1.len hzz; omega)
  generalize sgnI (z - z') = q at HS ⊢
  clear h h' hz hz' hzz hK
  go_enter Try.func47, Try.ntmps47
  go_wp2_with fail
  (with_reducible refine (HL.out _ (below_two w _ _)).mono ?_)
  rintro e w1 ⟨s1, n1, A1, m1, c1, rfl, hRI, hB⟩
  have HB := Lib.hid ((below_two w _ _).trans (hB.mono (below_two w _ _).size))
  have HRI := Lib.hid hRI
  clear hRI hB
  go_wp2_with fail
  (with_reducible refine (HS.out _ _ _ _ _ _ HRI.out).mono ?_)
  rintro e w2 ⟨rfl, hB2⟩
  have HB2 := Lib.hid (stepB HB.out hB2)
  clear hB2
  go_wp2_with fail
  go_ret
  exact ⟨rfl, HB2.out⟩

set_option maxRecDepth 100000 in
set_option maxHeartbeats 4000000 in
theorem rabs_any (s : Int) (neg : Bool) (A : Option Addr) (n c : Nat) (z : Int) (w : World) (h : RI w s neg A n c z) (hn : n ≤ 1000000) :
    Calls Try.prog 77 #[.agg #[.int .i64 s, .bool neg, .slice A n c]] w (RetI (z.natAbs : Int) w) := by
  have HR := Lib.hid h
  obtain ⟨q, hq⟩ : ∃ q, sgnI z = q := ⟨_, rfl⟩
  have HS : Hid (∀ wx, Below w.heap.size w wx → Calls Try.prog 59 #[.agg #[.int .i64 s, .bool neg, .slice A n c]] wx fun e w' => e = .returned (.int .i64 q) ∧ Below wx.heap.size wx w') := fun wx hb => by
    rw [← hq]; exact rsign_any s neg A n c z wx (h.keep hb) hn
  have HM : Hid (∀ wx, Below w.heap.size w wx → Calls Try.prog 60 #[.agg #[.int .i64 s, .bool neg, .slice A n c]] wx (RetI (-z) wx)) := fun wx hb => rminus_any s neg A n c z wx (h.keep hb) hn
  have hd : decide (q < 0) = decide (z < 0) := by rw [← hq, sgn_lt]
  clear h hn hq
  by_cases hz : z < 0
  · rw [decide_eq_true hz] at hd
    have e : (z.natAbs : Int) = -z := by omega
    rw [e]
    clear e hz
    go_enter Try.func77, Try.ntmps77
    go_upto_region 1 with fail
    generalize hX : (w.alloc _).alloc _ = X
    have HX : Hid (Below w.heap.size w X ∧ W3 (w.heap.size + 1) X) := by
      subst hX
      exact ⟨below_two w _ _, W3.new _ _ _ _ (by simp)⟩
    obtain ⟨k0, k1, k2, za⟩ : B3 w.heap.size (.int .i64 s) (.bool neg) (.slice A n c) X := by
      subst hX
      simp [B3, go_sem]
    clear hX
    go_wp2_with fail
    (with_reducible refine (HS.out _ HX.out.1).mono ?_)
    rintro e w1 ⟨rfl, hB⟩
    have C1 := (bcell hB).1
    have HB := Lib.hid hB
    clear hB
    go_wp2_with fail
    (with_reducible refine (HM.out _ (stepB HX.out.1 HB.out)).mono ?_)
    rintro e w2 ⟨s2, n2, A2, m2, c2, rfl, hRI, hB2⟩
    have HB2 := Lib.hid (stepB HB.out hB2)
    have HRI := Lib.hid hRI
    obtain ⟨⟨o1, o2, o3, o4, o5, o6⟩, q1, q2, q3, q4⟩ := HX.out.2.keep HB2.out
    have HQ4 := Lib.hid q4
    clear hRI hB2 q4 C1 k0 k1 k2
    go_wp2_with fail
    exact bodyPost_ret (v := .agg #[.int .i64 s2, .bool n2, .slice A2 m2 c2]) (by simp [results, Try.results77, go_sem, *]) rfl (retI_box HRI.out HQ4.out (stepB HX.out.1 HB2.out) (by omega))
  · rw [decide_eq_false hz] at hd
    have e : (z.natAbs : Int) = z := by omega
    rw [e]
    clear e hz
    go_enter Try.func77, Try.ntmps77
    go_upto_region 1 with fail
    generalize hX : (w.alloc _).alloc _ = X
    have HX : Hid (Below w.heap.size w X ∧ W3 (w.heap.size + 1) X) := by
      subst hX
      exact ⟨below_two w _ _, W3.new _ _ _ _ (by simp)⟩
    obtain ⟨k0, k1, k2, za⟩ : B3 w.heap.size (.int .i64 s) (.bool neg) (.slice A n c) X := by
      subst hX
      simp [B3, go_sem]
    clear hX
    go_wp2_with fail
    (with_reducible refine (HS.out _ HX.out.1).mono ?_)
    rintro e w1 ⟨rfl, hB⟩
    have C1 := (bcell hB).1
    have HB := Lib.hid hB
    obtain ⟨⟨o1, o2, o3, o4, o5, o6⟩, q1, q2, q3, q4⟩ := HX.out.2.keep hB
    have HQ4 := Lib.hid q4
    clear hB q4
    go_wp2_with fail
    exact bodyPost_ret (v := .agg #[.int .i64 s, .bool neg, .slice A n c]) (by simp [results, Try.results77, go_sem, *]) rfl (retI_box (HR.out.keep (stepB HX.out.1 HB.out)) HQ4.out (stepB HX.out.1 HB.out) (by omega))

end Go.Proofs.Ytfhmhkbjcccejaa

namespace Go.Proofs.Ytfhmhkbjcccejaa
open Go.RowKit

theorem val_set {l : List Nat} {j : Nat} (hj : j < l.length) (d : Nat) : val (l.set j d) + Bs ^ j * l.getD j 0 = val l + Bs ^ j * d := by
  have h1 : val (l.set j d) = val ((l.set j d).take j) + Bs ^ j * ((l.set j d).getD j 0 + Bs * val ((l.set j d).drop (j + 1))) := by
    rw [← val_drop (by rw [List.length_set]; exact hj)]
    exact val_split _ (by rw [List.length_set]; omega)
  have h2 : val l = val (l.take j) + Bs ^ j * (l.getD j 0 + Bs * val (l.drop (j + 1))) := by
    rw [← val_drop hj]
    exact val_split _ (by omega)
  have e1 : (l.set j d).take j = l.take j := by rw [List.take_set_of_le (Nat.le_refl _)]
  have e2 : (l.set j d).drop (j + 1) = l.drop (j + 1) := by rw [List.drop_set_of_lt (by omega)]
  have e3 : (l.set j d).getD j 0 = d := by rw [getD_set _ _ _ _ hj, if_pos rfl]
  rw [e1, e2, e3] at h1
  rw [h1, h2, Nat.mul_add, Nat.mul_add]
  omega

/-- Rows that are done. -/
def TimO (w0 : World) (G : Nat) (lx ly : List Nat) (i : Value) (wr : World) : Prop :=
  ∃ (p : Nat) (o : List Nat), p ≤ lx.length ∧ i = .int .i64 (p : Int) ∧ o.length = lx.length + ly.length ∧ RowI wr G o ∧ Dl o ∧ (∀ j, p + ly.length ≤ j → o.getD j 0 = 0) ∧ val o = val (lx.take p) * val ly ∧ Below w0.heap.size w0 wr
/-- Digits of a row that are done. -/
def TimN (w0 : World) (G : Nat) (lx ly : List Nat) (p : Nat) (c k : Value) (wr : World) : Prop :=
  ∃ (q r : Nat) (o : List Nat), q ≤ ly.length ∧ k = .int .i64 (q : Int) ∧ c = .int .i64 (r : Int) ∧ r < Bs ∧ o.length = lx.length + ly.length ∧ RowI wr G o ∧ Dl o ∧ (∀ j, p + ly.length ≤ j → o.getD j 0 = 0) ∧
    val o + Bs ^ (p + q) * r = val (lx.take p) * val ly + Bs ^ p * (lx.getD p 0 * val (ly.take q)) ∧ Below w0.heap.size w0 wr
theorem TimN.next {w0 wr w' : World} {G p q r : Nat} {lx ly o : List Nat} (hx : Dl lx) (hy : Dl ly) (hp : p < lx.length) (hq : q < ly.length) (hr : r < Bs) (ho : o.length = lx.length + ly.length) (hrow : RowI wr G o) (hd : Dl o) (hz : ∀ j, p + ly.length ≤ j → o.getD j 0 = 0)
    (hv : val o + Bs ^ (p + q) * r = val (lx.take p) * val ly + Bs ^ p * (lx.getD p 0 * val (ly.take q))) (hbel : Below w0.heap.size w0 wr) (hG : w0.heap.size ≤ G) {N : Nat} {X C K : Int} {c k : Value}
    (hX : X = (((r + (o.getD (p + q) 0 + lx.getD p 0 * ly.getD q 0)) % Bs : Nat) : Int)) (hw : w' = (wr.drewN N).setCell ⟨G, p + q, none⟩ (.int .i64 X)) (hc : c = .int .i64 C) (hC : C = (((r + (o.getD (p + q) 0 + lx.getD p 0 * ly.getD q 0)) / Bs : Nat) : Int)) (hk : k = .int .i64 K) (hK : K = ((q + 1 : Nat) : Int)) : TimN w0 G lx ly p c k w' := by
  subst hX hw hc hC hk hK
  have h1 := hx.getD p
  have h2 := hy.getD q
  have h3 := hd.getD (p + q)
  have hpq : p + q < o.length := by omega
  have hxy := sca_bd h1 h2
  have hdm := Nat.div_add_mod (r + (o.getD (p + q) 0 + lx.getD p 0 * ly.getD q 0)) Bs
  have hvs := val_set hpq ((r + (o.getD (p + q) 0 + lx.getD p 0 * ly.getD q 0)) % Bs)
  refine ⟨q + 1, (r + (o.getD (p + q) 0 + lx.getD p 0 * ly.getD q 0)) / Bs, o.set (p + q) ((r + (o.getD (p + q) 0 + lx.getD p 0 * ly.getD q 0)) % Bs), hq, rfl, rfl, ?_, by rw [List.length_set]; exact ho, (hrow.drewN N).set hpq _, hd.set _ (Nat.mod_lt _ Bs_pos), fun j hj => ?_, ?_, ?_⟩
  · rw [Bs_eq] at hr h3 ⊢
    omega
  · rw [getD_set _ _ _ _ hpq, if_neg (by omega)]
    exact hz j hj
  · rw [val_take_succ, show p + (q + 1) = (p + q) + 1 from rfl, Nat.pow_succ]
    generalize o.getD (p + q) 0 = od at *
    generalize lx.getD p 0 = xd at *
    generalize ly.getD q 0 = yd at *
    generalize hT : xd * yd = T at *
    have e1 : Bs ^ (p + q) * (Bs * ((r + (od + T)) / Bs) + (r + (od + T)) % Bs) = Bs ^ (p + q) * (r + (od + T)) := by rw [hdm]
    rw [Nat.mul_add xd, Nat.mul_add (Bs ^ p)]
    have e2 : Bs ^ p * (xd * (Bs ^ q * yd)) = Bs ^ (p + q) * T := by
      rw [Nat.pow_add, ← hT, Nat.mul_assoc, Nat.mul_left_comm xd]
    simp only [Nat.mul_add] at e1
    rw [Nat.mul_assoc]
    generalize (r + (od + T)) % Bs = u at *
    generalize (r + (od + T)) / Bs = v at *
    omega
  · have h : Below w0.heap.size w0 (wr.drewN N) := ⟨hbel.os, hbel.tape, hbel.output, hbel.size, hbel.block⟩
    exact h.setCell hG _
theorem TimO.next {w0 wr w' : World} {G p r : Nat} {lx ly o : List Nat} (hp : p < lx.length) (hr : r < Bs) (ho : o.length = lx.length + ly.length) (hrow : RowI wr G o) (hd : Dl o) (hz : ∀ j, p + ly.length ≤ j → o.getD j 0 = 0)
    (hv : val o + Bs ^ (p + ly.length) * r = val (lx.take p) * val ly + Bs ^ p * (lx.getD p 0 * val (ly.take ly.length))) (hbel : Below w0.heap.size w0 wr) (hG : w0.heap.size ≤ G) {I : Int} {i : Value}
    (hw : w' = wr.setCell ⟨G, p + ly.length, none⟩ (.int .i64 (r : Int))) (hi : i = .int .i64 I) (hI : I = ((p + 1 : Nat) : Int)) : TimO w0 G lx ly i w' := by
  subst hw hi hI
  have hpq : p + ly.length < o.length := by omega
  have hvs := val_set hpq r
  rw [hz _ (Nat.le_refl _), Nat.mul_zero, Nat.add_zero] at hvs
  refine ⟨p + 1, o.set (p + ly.length) r, hp, rfl, by rw [List.length_set]; exact ho, hrow.set hpq r, hd.set _ hr, fun j hj => ?_, ?_, hbel.setCell hG _⟩
  · rw [getD_set _ _ _ _ hpq, if_neg (by omega)]
    exact hz j (by omega)
  · rw [hvs, hv, val_take_succ, List.take_length, Nat.add_mul, Nat.mul_assoc]
theorem TimO.start {w0 wr : World} {G : Nat} {lx ly : List Nat} (hrow : RowI wr G (List.replicate (lx.length + ly.length) 0)) (hbel : Below w0.heap.size w0 wr) : TimO w0 G lx ly (.int .i64 0) wr :=
  ⟨0, _, Nat.zero_le _, rfl, by simp, hrow, Dl.zeros _, fun j _ => by simp only [List.getD_eq_getElem?_getD, List.getElem?_replicate]; split <;> rfl, by
    have h : ∀ k, val (List.replicate k 0) = 0 := fun k => by
      induction k with
      | zero => rfl
      | succ k ih => rw [List.replicate_succ, val, ih]; rfl
    rw [h]; simp [val], hbel⟩
theorem TimN.start {w0 wr : World} {G p : Nat} {lx ly o : List Nat} (ho : o.length = lx.length + ly.length) (hrow : RowI wr G o) (hd : Dl o) (hz : ∀ j, p + ly.length ≤ j → o.getD j 0 = 0) (hv : val o = val (lx.take p) * val ly) (hbel : Below w0.heap.size w0 wr) : TimN w0 G lx ly p (.int .i64 0) (.int .i64 0) wr :=
  ⟨0, 0, o, Nat.zero_le _, rfl, rfl, Bs_pos, ho, hrow, hd, hz, by rw [hv]; simp [val], hbel⟩

theorem rtimes_small (s s' : Int) (A A' : Option Addr) (c c' : Nat) (w : World) (h1 : -1073741824 < s) (h2 : s < 1073741824) (h3 : -1073741824 < s') (h4 : s' < 1073741824) :
    Calls Try.prog 30 #[.agg #[.int .i64 s, .bool false, .slice A 0 c], .agg #[.int .i64 s', .bool false, .slice A' 0 c']] w (RetI (s * s') w) := by
  obtain ⟨T, hT⟩ : ∃ T, s * s' = T := ⟨_, rfl⟩
  have hb : T.natAbs ≤ 1152921502459363329 := by
    rw [← hT, Int.natAbs_mul]
    have := Nat.mul_le_mul (show s.natAbs ≤ 1073741823 by omega) (show s'.natAbs ≤ 1073741823 by omega)
    omega
  have hb1 : -1152921502459363329 ≤ T := by omega
  have hb2 : T ≤ 1152921502459363329 := by omega
  have HR : Hid (∀ wx, Below w.heap.size w wx → RetI T w (.returned (.agg #[.int .i64 T, .bool false, .slice none 0 0])) wx) := fun wx hb => retI (RI.small wx (by rw [Edge_eq]; omega) none 0 (Nat.zero_le _)) hb
  have g1 := decide_eq_true h1
  have g2 := decide_eq_true h2
  have g3 := decide_eq_true h3
  have g4 := decide_eq_true h4
  have hw : IntKind.i64.wrap T = T := IntWalk.i64_in _ (by omega)
  have hw2 : IntKind.i64.wrap (s * s') = T := by rw [hT]; exact hw
  rw [hT]
  clear hb h1 h2 h3 h4
  go_enter Try.func30, Try.ntmps30
  go_wp2_with fail
  exact bodyPost_ret (v := .agg #[.int .i64 T, .bool false, .slice none 0 0]) (by simp [results, Try.results30, go_sem]) rfl (HR.out _ ((below_two w _ _).alloc (by simp; omega) _))


theorem sgz_mul (z z' : Int) : sgz (sgnI z != sgnI z') (z.natAbs * z'.natAbs) = z * z' := by
  have e : ∀ x y : Nat, ((x * y : Nat) : Int) = (x : Int) * (y : Int) := fun x y => Int.natCast_mul x y
  rcases Int.lt_trichotomy z 0 with h | h | h <;> rcases Int.lt_trichotomy z' 0 with h' | h' | h'
  all_goals
    first
      | (subst h; simp [sgz])
      | (subst h'; simp [sgz])
      | skip
  · obtain ⟨x, hx⟩ : ∃ x : Nat, z = -(x : Int) := ⟨z.natAbs, by omega⟩
    obtain ⟨y, hy⟩ : ∃ y : Nat, z' = -(y : Int) := ⟨z'.natAbs, by omega⟩
    have e1 : sgnI z = -1 := if_pos h
    have e2 : sgnI z' = -1 := if_pos h'
    rw [e1, e2, hx, hy, Int.natAbs_neg, Int.natAbs_neg, Int.natAbs_natCast, Int.natAbs_natCast, Int.neg_mul_neg, ← e]
    rfl
  · obtain ⟨x, hx⟩ : ∃ x : Nat, z = -(x : Int) := ⟨z.natAbs, by omega⟩
    obtain ⟨y, hy⟩ : ∃ y : Nat, z' = (y : Int) := ⟨z'.natAbs, by omega⟩
    have e1 : sgnI z = -1 := if_pos h
    have e2 : sgnI z' = 1 := by unfold sgnI; rw [if_neg (by omega), if_neg (by omega)]
    rw [e1, e2, hx, hy, Int.natAbs_neg, Int.natAbs_natCast, Int.natAbs_natCast, Int.neg_mul, ← e]
    rfl
  · obtain ⟨x, hx⟩ : ∃ x : Nat, z = (x : Int) := ⟨z.natAbs, by omega⟩
    obtain ⟨y, hy⟩ : ∃ y : Nat, z' = -(y : Int) := ⟨z'.natAbs, by omega⟩
    have e1 : sgnI z = 1 := by unfold sgnI; rw [if_neg (by omega), if_neg (by omega)]
    have e2 : sgnI z' = -1 := if_pos h'
    rw [e1, e2, hx, hy, Int.natAbs_neg, Int.natAbs_natCast, Int.natAbs_natCast, Int.mul_neg, ← e]
    rfl
  · obtain ⟨x, hx⟩ : ∃ x : Nat, z = (x : Int) := ⟨z.natAbs, by omega⟩
    obtain ⟨y, hy⟩ : ∃ y : Nat, z' = (y : Int) := ⟨z'.natAbs, by omega⟩
    have e1 : sgnI z = 1 := by unfold sgnI; rw [if_neg (by omega), if_neg (by omega)]
    have e2 : sgnI z' = 1 := by unfold sgnI; rw [if_neg (by omega), if_neg (by omega)]
    rw [e1, e2, hx, hy, Int.natAbs_natCast, Int.natAbs_natCast, ← e]
    rfl


set_option maxRecDepth 100000 in
set_option maxHeartbeats 20000000 in
theorem rtimes_big (s s' : Int) (neg neg' : Bool) (A A' : Option Addr) (n c n' c' K : Nat) (z z' : Int) (w : World) (h : RI w s neg A n c z) (h' : RI w s' neg' A' n' c' z') (hK : K ≤ 250000) (hz : z.natAbs < Bs ^ K) (hz' : z'.natAbs < Bs ^ K)
    (hg : (((n : Int) == 0) = false) ∨ (((n : Int) == 0) = true ∧ ((n' : Int) == 0) = false) ∨ (((n : Int) == 0) = true ∧ ((n' : Int) == 0) = true ∧ decide (-1073741824 < s) = false) ∨
      (((n : Int) == 0) = true ∧ ((n' : Int) == 0) = true ∧ decide (-1073741824 < s) = true ∧ decide (s < 1073741824) = false) ∨
      (((n : Int) == 0) = true ∧ ((n' : Int) == 0) = true ∧ decide (-1073741824 < s) = true ∧ decide (s < 1073741824) = true ∧ decide (-1073741824 < s') = false) ∨
      (((n : Int) == 0) = true ∧ ((n' : Int) == 0) = true ∧ decide (-1073741824 < s) = true ∧ decide (s < 1073741824) = true ∧ decide (-1073741824 < s') = true ∧ decide (s' < 1073741824) = false)) :
    Calls Try.prog 30 #[.agg #[.int .i64 s, .bool neg, .slice A n c], .agg #[.int .i64 s', .bool neg', .slice A' n' c']] w (RetI (z * z') w) := by
  have hn := h.len hz
  have hn' := h'.len hz'
  have HL1 : Hid (∀ wx, Below w.heap.size w wx → Calls Try.prog 62 #[.agg #[.int .i64 s, .bool neg, .slice A n c]] wx (RetL (fun l => Nz l ∧ val l = z.natAbs) wx)) := fun wx hb => rlist_any s neg A n c z wx (h.keep hb) (by omega)
  have HL2 : Hid (∀ wx, Below w.heap.size w wx → Calls Try.prog 62 #[.agg #[.int .i64 s', .bool neg', .slice A' n' c']] wx (RetL (fun l => Nz l ∧ val l = z'.natAbs) wx)) := fun wx hb => rlist_any s' neg' A' n' c' z' wx (h'.keep hb) (by omega)
  obtain ⟨q1, hq1⟩ : ∃ q1, sgnI z = q1 := ⟨_, rfl⟩
  obtain ⟨q2, hq2⟩ : ∃ q2, sgnI z' = q2 := ⟨_, rfl⟩
  have HS1 : Hid (∀ wx, Below w.heap.size w wx → Calls Try.prog 59 #[.agg #[.int .i64 s, .bool neg, .slice A n c]] wx fun e w' => e = .returned (.int .i64 q1) ∧ Below wx.heap.size wx w') := fun wx hb => by
    rw [← hq1]; exact rsign_any s neg A n c z wx (h.keep hb) (by omega)
  have HS2 : Hid (∀ wx, Below w.heap.size w wx → Calls Try.prog 59 #[.agg #[.int .i64 s', .bool neg', .slice A' n' c']] wx fun e w' => e = .returned (.int .i64 q2) ∧ Below wx.heap.size wx w') := fun wx hb => by
    rw [← hq2]; exact rsign_any s' neg' A' n' c' z' wx (h'.keep hb) (by omega)
  obtain ⟨b, hb⟩ : ∃ b, (q1 != q2) = b := ⟨_, rfl⟩
  have HBB : Hid (sgz b (z.natAbs * z'.natAbs) = z * z') := by
    show _ = _
    rw [← hb, ← hq1, ← hq2]
    exact sgz_mul z z'
  have HB := Lib.hid hb
  have HZ1 := Lib.hid hz
  have HZ2 := Lib.hid hz'
  have HK := Lib.hid hK
  clear h h' hn hn' hq1 hq2 hz hz' hK hb
  go_enter Try.func30, Try.ntmps30
  go_upto_region 1 with fail
  obtain ⟨X, hX, hwX, hsX, ⟨k0, k1, k2, za⟩, ⟨j0, j1, j2, zb⟩, hW⟩ := boxesI w (.int .i64 s) (.bool neg) (.slice A n c) (.int .i64 s') (.bool neg') (.slice A' n' c')
  rw [hX]
  clear hX
  have HwX := Lib.hid hwX
  have HW := Lib.hid hW
  clear hsX hwX hW
  go_cut [40] (fun t wx => t = .bool false ∧ X = wx)
  case first =>
    rcases hg with g1 | ⟨g1, g2⟩ | ⟨g1, g2, g3⟩ | ⟨g1, g2, g3, g4⟩ | ⟨g1, g2, g3, g4, g5⟩ | ⟨g1, g2, g3, g4, g5, g6⟩
    all_goals go_wp2_with fail
    all_goals go_meet
    all_goals exact ⟨rfl, rfl⟩
  case rest =>
    obtain ⟨rfl, rfl⟩ := hcut
    clear hg
    go_upto_region 3 with fail
    go_region_held3 (fun w' => w'.cell? ⟨w.heap.size, 0, none⟩ = some (.int .i64 s) ∧ w'.cell? ⟨w.heap.size, 1, none⟩ = some (.bool neg) ∧ w'.cell? ⟨w.heap.size, 2, none⟩ = some (.slice A n c) ∧ w'.cell? ⟨w.heap.size + 1, 0, none⟩ = some (.int .i64 s') ∧ w'.cell? ⟨w.heap.size + 1, 1, none⟩ = some (.bool neg') ∧ w'.cell? ⟨w.heap.size + 1, 2, none⟩ = some (.slice A' n' c')) (simp [go_sem, *])
      (first
        | (go_at_call 62; (with_reducible refine (HL1.out _ (by repeat (first | exact HwX.out | exact HW1.out | refine Below.drew ?_))).mono ?_); rintro e w1 ⟨v1, l1, rfl, hl1, hp1, hB1⟩; obtain ⟨A1, c1, rfl, hlc1, hdl1, hC1⟩ := hl1; (have R1 : Below X.heap.size X w1 := by first | exact hB1 | exact below_undrew' hB1); have C1 := (bcell R1).1; have HR1 := Lib.hid R1; have HW1 := Lib.hid (HwX.out.trans (R1.mono HwX.out.size)); have HC1a := Lib.hid hC1; have HDl1 := Lib.hid hdl1; have HP1 := Lib.hid hp1; clear R1 hC1 hdl1 hlc1 hp1 hB1)
        | (go_at_call 62; (with_reducible refine (HL2.out _ (by repeat (first | exact HwX.out | exact HW1.out | refine Below.drew ?_))).mono ?_); rintro e w2 ⟨v2, l2, rfl, hl2, hp2, hB2⟩; obtain ⟨A2, c2, rfl, hlc2, hdl2, hC2⟩ := hl2; (have R2 : Below w1.heap.size w1 w2 := by first | exact hB2 | exact below_undrew' hB2); have HR2 := Lib.hid (stepB HR1.out R2); have C2 := (bcell HR2.out).1; have HW2 := Lib.hid (HwX.out.trans (HR2.out.mono HwX.out.size)); have HC1 := Lib.hid (HC1a.out.keep R2); have HC2 := Lib.hid hC2; have HDl2 := Lib.hid hdl2; have HP2 := Lib.hid hp2; clear C1 R2 hC2 hdl2 hlc2 hp2 hB2))
    have HN1 := Lib.hid (Nat.le_trans (len_of_val HP1.out.1 HP1.out.2 HZ1.out) HK.out)
    have HN2 := Lib.hid (Nat.le_trans (len_of_val HP2.out.1 HP2.out.2 HZ2.out) HK.out)
    have HK0 := Lib.hid (And.intro (And.intro k0 (And.intro k1 (And.intro k2 za))) (And.intro j0 (And.intro j1 (And.intro j2 zb))))
    clear k0 k1 k2 za j0 j1 j2 zb C2
    obtain ⟨m1, hm1⟩ : ∃ m1, l1.length = m1 := ⟨_, rfl⟩
    obtain ⟨m2, hm2⟩ : ∃ m2, l2.length = m2 := ⟨_, rfl⟩
    have bm1 : m1 ≤ 250000 := by rw [← hm1]; exact HN1.out
    have bm2 : m2 ≤ 250000 := by rw [← hm2]; exact HN2.out
    rw [hm1, hm2]
    have HM1 := Lib.hid hm1
    have HM2 := Lib.hid hm2
    clear hm1 hm2
    have hmk := make_rowI (m1 + m2) (by omega)
    have ec : ((m1 + m2 : Nat) : Int) = (m1 : Int) + m2 := by omega
    rw [ec] at hmk
    go_upto_region 5 with fail
    clear hmk ec
    have HY : Hid (RowI (w2.alloc (.cells (madeCells #[.int .i64 0] (m1 + m2)) 3)) w2.heap.size (List.replicate (l1.length + l2.length) 0)) := by rw [HM1.out, HM2.out]; exact RowI.new w2 (m1 + m2)
    go_wp2_with fail
    go_loopw [59] (fun i wr => TimO w2 w2.heap.size l1 l2 i wr) (fun i _ => m1 - (intOf i).toNat)
    case atStart => exact TimO.start HY.out (below_alloc w2 _)
    case round =>
      obtain ⟨p, o, hp, rfl, ho, hrow, hd, hz, hv, hbel⟩ := hrel
      have hpm : p ≤ m1 := by rw [HM1.out] at hp; exact hp
      have HO := Lib.hid ho
      have HROW := Lib.hid hrow
      have HD := Lib.hid hd
      have HZ := Lib.hid hz
      have HV := Lib.hid hv
      have HBL := Lib.hid hbel
      clear hp ho hrow hd hz hv hbel HY
      by_cases hlt : p < m1
      · go_wp2_with fail
        go_loopw [9, 64] (fun c k wx => TimN w2 w2.heap.size l1 l2 p c k wx) (fun _ k _ => m2 - (intOf k).toNat)
        case atStart => exact TimN.start HO.out HROW.out HD.out HZ.out HV.out HBL.out
        case round =>
          rename_i wx _
          obtain ⟨q, r, o', hq, rfl, rfl, hr, ho', hrow', hd', hz', hv', hbel'⟩ := hrel
          have hqm : q ≤ m2 := by rw [HM2.out] at hq; exact hq
          have hr1 : r < 1073741824 := by rw [Bs_eq] at hr; exact hr
          have HO' := Lib.hid ho'
          have HROW' := Lib.hid hrow'
          have HD' := Lib.hid hd'
          have HZ' := Lib.hid hz'
          have HV' := Lib.hid hv'
          have HBL' := Lib.hid hbel'
          have HR := Lib.hid hr
          clear hq ho' hrow' hd' hz' hv' hbel' hr
          by_cases hq2 : q < m2
          · obtain ⟨ba, offa, rfl, -, hca⟩ := HC1.out.keep HBL'.out (by rw [HM1.out]; omega)
            obtain ⟨bb, offb, rfl, -, hcb⟩ := HC2.out.keep HBL'.out (by rw [HM2.out]; omega)
            have c1 := hca p (by rw [HM1.out]; exact hlt)
            have c2' := hcb q (by rw [HM2.out]; exact hq2)
            have c3 := HROW'.out.cell (i := p + q) (by rw [HO'.out, HM1.out, HM2.out]; omega)
            have f3 := HROW'.out.frozen (p + q)
            clear hca hcb
            obtain ⟨x, hx⟩ : ∃ x, l1.getD p 0 = x := ⟨_, rfl⟩
            obtain ⟨y, hy⟩ : ∃ y, l2.getD q 0 = y := ⟨_, rfl⟩
            obtain ⟨u, hu⟩ : ∃ u, o'.getD (p + q) 0 = u := ⟨_, rfl⟩
            have hx1 : x < 1073741824 := by have := HDl1.out.getD p; rw [Bs_eq, hx] at this; exact this
            have hy1 : y < 1073741824 := by have := HDl2.out.getD q; rw [Bs_eq, hy] at this; exact this
            have hu1 : u < 1073741824 := by have := HD'.out.getD (p + q); rw [Bs_eq, hu] at this; exact this
            rw [hx] at c1
            rw [hy] at c2'
            rw [hu] at c3
            obtain ⟨T, hT⟩ : ∃ T, x * y = T := ⟨_, rfl⟩
            have ht1 : T ≤ 1152921502459363329 := by rw [← hT]; exact sca_bd (by rw [Bs_eq]; exact hx1) (by rw [Bs_eq]; exact hy1)
            have hxy : (x : Int) * (y : Int) = (T : Int) := by rw [← hT]; exact (Int.natCast_mul x y).symm
            have HX := Lib.hid hx
            have HY := Lib.hid hy
            have HU := Lib.hid hu
            have HT := Lib.hid hT
            clear hx hy hu hT
            have hw1 : IntKind.i64.wrap ((p : Int) + (q : Int)) = (p : Int) + (q : Int) := IntWalk.i64_in _ (by omega)
            have hw2 : (0 : Int) ≤ (p : Int) + (q : Int) := by omega
            have hw3 : ((p : Int) + (q : Int)).toNat = p + q := by omega
            have hw4 : (p : Int) + (q : Int) < (m1 : Int) + (m2 : Int) := by omega
            go_wp2_with fail
            go_quiet (fail)
            go_wp2_with fail
            exact ⟨TimN.next HDl1.out HDl2.out (by rw [HM1.out]; exact hlt) (by rw [HM2.out]; exact hq2) HR.out HO'.out HROW'.out HD'.out HZ'.out HV'.out HBL'.out (Nat.le_refl _) (by rw [HX.out, HY.out, HU.out, HT.out, Bs_eq]; omega) rfl rfl (by rw [HX.out, HY.out, HU.out, HT.out, Bs_eq]; omega) rfl (by omega), by simp [intOf]; omega⟩
          · obtain rfl : q = m2 := by omega
            have c3 := HROW'.out.cell (i := p + q) (by rw [HO'.out, HM1.out, HM2.out]; omega)
            have f3 := HROW'.out.frozen (p + q)
            have hw4 : (p : Int) + (q : Int) < (m1 : Int) + (q : Int) := by omega
            go_wp2_with fail
            have hv2 := HV'.out
            rw [← HM2.out] at hv2
            exact ⟨TimO.next (by rw [HM1.out]; exact hlt) HR.out HO'.out HROW'.out HD'.out HZ'.out hv2 HBL'.out (Nat.le_refl _) (by rw [HM2.out]) rfl (by omega), by simp [intOf]; omega⟩
      · obtain rfl : p = m1 := by omega
        go_upto_region 18 with fail
        have HRX := Lib.hid (stepB HR2.out HBL.out)
        have C5 := (bcell HRX.out).1
        have HWX := Lib.hid (HwX.out.trans (HRX.out.mono HwX.out.size))
        obtain ⟨⟨k0, k1, k2, za⟩, ⟨j0, j1, j2, zb⟩⟩ := HK0.out
        have hb := HB.out
        go_region_held3 (fun w' => w'.cell? ⟨w.heap.size, 0, none⟩ = some (.int .i64 s) ∧ w'.cell? ⟨w.heap.size, 1, none⟩ = some (.bool neg) ∧ w'.cell? ⟨w.heap.size, 2, none⟩ = some (.slice A n c) ∧ w'.cell? ⟨w.heap.size + 1, 0, none⟩ = some (.int .i64 s') ∧ w'.cell? ⟨w.heap.size + 1, 1, none⟩ = some (.bool neg') ∧ w'.cell? ⟨w.heap.size + 1, 2, none⟩ = some (.slice A' n' c')) (simp [go_sem, *])
          (first
            | (go_at_call 59; (with_reducible refine (HS1.out _ (by repeat (first | exact HWX.out | exact HW3.out | exact HW4.out | refine Below.drew ?_))).mono ?_); rintro e w3 ⟨rfl, hB3⟩; (have R3 : Below wr.heap.size wr w3 := by first | exact hB3 | exact below_undrew' hB3); have HR3 := Lib.hid (stepB HRX.out R3); have HQ3 := Lib.hid R3; have C3 := (bcell HR3.out).1; have HW3 := Lib.hid (HwX.out.trans (HR3.out.mono HwX.out.size)); clear C5 R3 hB3)
            | (go_at_call 59; (with_reducible refine (HS2.out _ (by repeat (first | exact HWX.out | exact HW3.out | exact HW4.out | refine Below.drew ?_))).mono ?_); rintro e w4 ⟨rfl, hB4⟩; (have R4 : Below w3.heap.size w3 w4 := by first | exact hB4 | exact below_undrew' hB4); have HR4 := Lib.hid (stepB HR3.out R4); have HQ4 := Lib.hid (stepB HQ3.out R4); have C4 := (bcell HR4.out).1; have HW4 := Lib.hid (HwX.out.trans (HR4.out.mono HwX.out.size)); clear C3 R4 hB4)
            | (go_at_call 63; (with_reducible refine (made_any b (some ⟨w2.heap.size, 0, none⟩) (p + m2) (p + m2) o _ (by rw [HO.out, HM1.out, HM2.out]) (Nat.le_refl _) (by omega) HD.out (by first | exact (HROW.out.keep HQ4.out).lc | exact Lc.drew (HROW.out.keep HQ4.out).lc)).mono ?_); rintro e w5 ⟨s5, n5, A5, m5, c5, rfl, hRI5, hB5⟩; (have R5 : Below w4.heap.size w4 w5 := by first | exact hB5 | exact below_undrew' hB5); have HR5 := Lib.hid (stepB HR4.out R5); have C5 := (bcell HR5.out).1; have HRI5 := Lib.hid hRI5; clear C4 hRI5 hB5 R5; obtain ⟨⟨o1, o2, o3, o4, o5, o6⟩, r1, r2, r3, r4⟩ := HW.out.keep HR5.out; have HR4' := Lib.hid r4; clear r4))
        all_goals go_wp2_with fail
        all_goals exact bodyPost_ret (v := .agg #[.int .i64 s5, .bool n5, .slice A5 m5 c5]) (by simp [results, Try.results30, go_sem, *]) rfl (by
          have e : sgz b (val o) = z * z' := by
            have h1 := HV.out
            rw [← HM1.out, List.take_length, HP1.out.2, HP2.out.2] at h1
            rw [h1]
            exact HBB.out
          have hRI := HRI5.out
          rw [e] at hRI
          exact retI_box hRI HR4'.out (HwX.out.trans (HR5.out.mono HwX.out.size)) (by omega))


theorem rtimes_any (s s' : Int) (neg neg' : Bool) (A A' : Option Addr) (n c n' c' K : Nat) (z z' : Int) (w : World) (h : RI w s neg A n c z) (h' : RI w s' neg' A' n' c' z') (hK : K ≤ 250000) (hz : z.natAbs < Bs ^ K) (hz' : z'.natAbs < Bs ^ K) :
    Calls Try.prog 30 #[.agg #[.int .i64 s, .bool neg, .slice A n c], .agg #[.int .i64 s', .bool neg', .slice A' n' c']] w (RetI (z * z') w) := by
  by_cases hn : n = 0
  · have g1 : ((n : Int) == 0) = true := by rw [hn]; rfl
    by_cases hn' : n' = 0
    · have g2 : ((n' : Int) == 0) = true := by rw [hn']; rfl
      by_cases h1 : -1073741824 < s
      · by_cases h2 : s < 1073741824
        · by_cases h3 : -1073741824 < s'
          · by_cases h4 : s' < 1073741824
            · obtain ⟨l, -, -, -, -, ⟨-, rfl, rfl, -⟩ | ⟨h5, _⟩⟩ := h
              · obtain ⟨l', -, -, -, -, ⟨-, rfl, rfl, -⟩ | ⟨h5, _⟩⟩ := h'
                · subst hn hn'
                  exact rtimes_small s s' A A' c c' w h1 h2 h3 h4
                · omega
              · omega
            · exact rtimes_big s s' neg neg' A A' n c n' c' K z z' w h h' hK hz hz' (Or.inr (Or.inr (Or.inr (Or.inr (Or.inr ⟨g1, g2, decide_eq_true h1, decide_eq_true h2, decide_eq_true h3, decide_eq_false h4⟩)))))
          · exact rtimes_big s s' neg neg' A A' n c n' c' K z z' w h h' hK hz hz' (Or.inr (Or.inr (Or.inr (Or.inr (Or.inl ⟨g1, g2, decide_eq_true h1, decide_eq_true h2, decide_eq_false h3⟩)))))
        · exact rtimes_big s s' neg neg' A A' n c n' c' K z z' w h h' hK hz hz' (Or.inr (Or.inr (Or.inr (Or.inl ⟨g1, g2, decide_eq_true h1, decide_eq_false h2⟩))))
      · exact rtimes_big s s' neg neg' A A' n c n' c' K z z' w h h' hK hz hz' (Or.inr (Or.inr (Or.inl ⟨g1, g2, decide_eq_false h1⟩)))
    · exact rtimes_big s s' neg neg' A A' n c n' c' K z z' w h h' hK hz hz' (Or.inr (Or.inl ⟨g1, by rw [beq_eq_false_iff_ne]; omega⟩))
  · exact rtimes_big s s' neg neg' A A' n c n' c' K z z' w h h' hK hz hz' (Or.inl (by rw [beq_eq_false_iff_ne]; omega))

end Go.Proofs.Ytfhmhkbjcccejaa

namespace Go.Proofs.Ytfhmhkbjcccejaa
open Go.RowKit

/-- The estimate is not too small. -/
theorem est_le {U V : List Nat} {m : Nat} (hU : Dl U) (hul : U.length = m + 2) (hvl : V.length = m + 1) (hv1 : 0 < V.getD m 0) : val U / val V ≤ (U.getD (m + 1) 0 * Bs + U.getD m 0) / V.getD m 0 := by
  have hb := val_lt (hU.take m)
  rw [List.length_take, Nat.min_eq_left (by omega)] at hb
  have e1 : val U = val (U.take m) + Bs ^ m * (U.getD m 0 + Bs * U.getD (m + 1) 0) := by
    rw [val_split U (k := m) (by omega), val_drop (l := U) (k := m) (by omega), val_drop (l := U) (k := m + 1) (by omega), List.drop_of_length_le (by omega : U.length ≤ m + 1 + 1), val_nil, Nat.mul_zero, Nat.add_zero]
  have e2 : Bs ^ m * V.getD m 0 ≤ val V := by
    rw [val_split V (k := m) (by omega), val_drop (l := V) (k := m) (by omega), List.drop_of_length_le (by omega : V.length ≤ m + 1), val_nil, Nat.mul_zero, Nat.add_zero]
    omega
  generalize hT : U.getD m 0 + Bs * U.getD (m + 1) 0 = T at e1
  have hT2 : U.getD (m + 1) 0 * Bs + U.getD m 0 = T := by rw [← hT, Nat.mul_comm]; omega
  rw [hT2, Nat.le_div_iff_mul_le hv1]
  have h1 : val U / val V * val V ≤ val U := Nat.div_mul_le_self _ _
  have h2 : val U / val V * (Bs ^ m * V.getD m 0) ≤ val U / val V * val V := Nat.mul_le_mul_left _ e2
  have h3 : Bs ^ m * (val U / val V * V.getD m 0) < Bs ^ m * (T + 1) := by
    rw [Nat.mul_left_comm, Nat.mul_add, Nat.mul_one]
    omega
  have := Nat.lt_of_mul_lt_mul_left h3
  omega

theorem top_pos {l : List Nat} (hz : Nz l) (h : 0 < l.length) : 0 < l.getD (l.length - 1) 0 := by
  rcases hz with h1 | h1
  · rw [h1] at h; simp at h
  · omega
theorem Nz_of_ge {l : List Nat} (hd : Dl l) {k : Nat} (hl : l.length = k + 1) (h : Bs ^ k ≤ val l) : 0 < l.getD k 0 := by
  rcases Nat.eq_zero_or_pos (l.getD k 0) with h0 | h0
  · have h1 := val_lt (hd.take k)
    rw [List.length_take, Nat.min_eq_left (by omega)] at h1
    have h2 : val l = val (l.take k) := by
      have := val_take_succ l k
      rw [h0, Nat.mul_zero, Nat.add_zero, val_take_all (by omega)] at this
      exact this
    omega
  · exact h0

/-- The factor. -/
theorem fac_pos {t : Nat} (h : t < Bs) : 0 < Bs / (t + 1) := Nat.div_pos (by omega) (by omega)
theorem fac_lt {t : Nat} (h : 0 < t) : Bs / (t + 1) < 1073741824 := by
  rw [← Bs_eq]
  exact Nat.div_lt_self Bs_pos (by omega)
theorem fac_mul {l : List Nat} (hd : Dl l) {m : Nat} (hl : l.length = m + 1) : val l * (Bs / (l.getD m 0 + 1)) < Bs ^ (m + 1) := by
  have hb := val_lt (hd.take m)
  rw [List.length_take, Nat.min_eq_left (by omega)] at hb
  have e : val l = val (l.take m) + Bs ^ m * l.getD m 0 := by
    have := val_take_succ l m
    rw [val_take_all (by omega)] at this
    exact this
  have h1 : val l < Bs ^ m * (l.getD m 0 + 1) := by rw [Nat.mul_add, Nat.mul_one]; omega
  have hf : 0 < Bs / (l.getD m 0 + 1) := fac_pos (hd.getD m)
  have h2 : val l * (Bs / (l.getD m 0 + 1)) < Bs ^ m * (l.getD m 0 + 1) * (Bs / (l.getD m 0 + 1)) := Nat.mul_lt_mul_of_pos_right h1 hf
  have h3 : (l.getD m 0 + 1) * (Bs / (l.getD m 0 + 1)) ≤ Bs := Nat.mul_div_le _ _
  have h4 : Bs ^ m * ((l.getD m 0 + 1) * (Bs / (l.getD m 0 + 1))) ≤ Bs ^ m * Bs := Nat.mul_le_mul_left _ h3
  rw [← Nat.mul_assoc] at h4
  rw [Nat.pow_succ]
  omega

/-- A row that begins with these digits and may be written. -/
def Buf (w : World) (g : Nat) (l : List Nat) : Prop := ∃ cur : Array Value, w.heap[g]? = some (.cells cur 3 (0, 0)) ∧ l.length ≤ cur.size ∧ cur.toList.take l.length = l.map (fun (d : Nat) => .int .i64 (d : Int))
theorem Buf.lt {w : World} {g : Nat} {l : List Nat} (h : Buf w g l) : g < w.heap.size := by obtain ⟨cur, hc, _⟩ := h; exact lt_of_heap hc
theorem Buf.block {w w' : World} {g : Nat} {l : List Nat} (h : Buf w g l) (e : w'.heap[g]? = w.heap[g]?) : Buf w' g l := by obtain ⟨cur, hc, h2⟩ := h; exact ⟨cur, e.trans hc, h2⟩
theorem Buf.keep {w w' : World} {g : Nat} {l : List Nat} (h : Buf w g l) (hb : Below w.heap.size w w') : Buf w' g l := h.block (hb.block g h.lt)
theorem Buf.cell {w : World} {g : Nat} {l : List Nat} (h : Buf w g l) {i : Nat} (hi : i < l.length) : w.cell? ⟨g, i, none⟩ = some (.int .i64 ((l.getD i 0 : Nat) : Int)) := by
  obtain ⟨cur, hc, h1, h2⟩ := h
  rw [cell_of_row w g i cur 3 (0, 0) hc]
  have h3 : (cur.toList.take l.length)[i]? = (l.map (fun (d : Nat) => Value.int .i64 (d : Int)))[i]? := by rw [h2]
  rw [List.getElem?_take, if_pos hi] at h3
  simpa [List.getElem?_map, List.getD_eq_getElem?_getD, List.getElem?_eq_getElem hi] using h3
theorem Buf.lc {w : World} {g : Nat} {l : List Nat} (h : Buf w g l) : Lc w (some ⟨g, 0, none⟩) l := fun _ => by
  obtain ⟨cur, hc, _⟩ := id h
  exact ⟨g, 0, rfl, ⟨cur, (0, 0), hc⟩, fun i hi => by rw [Nat.zero_add]; exact h.cell hi⟩
theorem Buf.take {w : World} {g : Nat} {l : List Nat} (h : Buf w g l) (k : Nat) : Buf w g (l.take k) := by
  obtain ⟨cur, hc, h1, h2⟩ := h
  refine ⟨cur, hc, by rw [List.length_take]; omega, ?_⟩
  rw [List.map_take, ← h2, List.take_take, List.length_take]
theorem Buf.of {w : World} {B : Nat} {v : Value} {l : List Nat} (h : Own w B v l) (hl : 0 < l.length) : ∃ g cap, v = .slice (some ⟨g, 0, none⟩) l.length cap ∧ B ≤ g ∧ Buf w g l ∧ l.length ≤ cap ∧ cap ≤ 9223372036854775807 := by
  rcases h.2 with ⟨_, h0⟩ | ⟨g, cap, cur, h1, h2, h3, h4, h5, h6, h7⟩
  · omega
  · rw [Nat.mul_one] at h6 h7
    exact ⟨g, cap, h1, h2, ⟨cur, h3, by omega, h7⟩, h4, by unfold maxLen at h5; omega⟩

theorem info3s : (Try.prog.info? 3).map (·.size) = some 1 := by kernel_rfl

set_option maxRecDepth 100000 in
/-- copy(u[off:], d). -/
theorem wpList_copy_buf {ops : Array Oper} {rest : List Oper} {o : Oper} {a : Act} {w : World} {Q : Exit → Act → World → Prop} (hgd : o.guard = none) (d s : Operand)
    (ho : o.op = .call { callee := .builtin .copy, args := #[d, s], argTypes := #[34, 34] }) (g off dLen dCap : Nat) (ld lu : List Nat) (A : Option Addr) (c : Nat)
    (hd : a.eval d = .slice (some ⟨g, off, none⟩) dLen dCap) (hs : a.eval s = .slice A ld.length c) (hl : Lc w A ld) (hpos : 0 < ld.length) (hle : ld.length ≤ dLen) (hB : Buf w g lu) (hfit : off + ld.length ≤ lu.length)
    (h : ∀ w', Buf w' g (splice lu off ld) → (∀ k, k ≠ g → w'.heap[k]? = w.heap[k]?) → (∀ (B : Nat) (X : World), Below B X w → B ≤ g → Below B X w') → wpList Try.prog ops Q rest (a.put o.dst (goInt ld.length)) w') :
    wpList Try.prog ops Q (o :: rest) a w := by
  obtain ⟨cur, hc, h1, h2⟩ := hB
  obtain ⟨b, of, rfl, -, hcells⟩ := hl hpos
  have hlen : (ld.map (fun (d : Nat) => Value.int .i64 (d : Int))).length = ld.length := List.length_map _
  refine wpList_copy_own hgd d s 34 34 ho 3 Try.underlying34 info3s g off dLen dCap ⟨b, of, none⟩ ld.length c hd hs cur 3 hc (ld.map (fun (d : Nat) => .int .i64 (d : Int))) ?_ ?_ ?_ ?_ ?_
  · rw [hlen]; exact (Nat.min_eq_left hle).symm
  · intro j v hj
    rw [List.getElem?_map] at hj
    rcases Nat.lt_or_ge j ld.length with hjl | hjl
    · rw [List.getElem?_eq_getElem hjl] at hj
      simp at hj
      subst hj
      have := hcells j hjl
      simp only [List.getD_eq_getElem?_getD, List.getElem?_eq_getElem hjl, Option.getD_some] at this
      have hadd : (⟨b, of, none⟩ : Addr).add j = ⟨b, of + j, none⟩ := by unfold Addr.add; split <;> simp_all
      rw [hadd]
      exact this
    · rw [List.getElem?_eq_none hjl] at hj
      cases hj
  · rw [hlen]; omega
  · intro v hv
    obtain ⟨x, _, rfl⟩ := List.mem_map.1 hv
    rfl
  · rw [hlen]
    refine h _ ⟨_, setRow_heap w g _ _ 3 _ hc, ?_, ?_⟩ (fun k hk => setRow_other w g k _ hk) (fun B X hX hBg => below_setRow hX hBg _)
    · rw [length_splice _ _ _ hfit]
      simp only [List.size_toArray, List.length_append, List.length_take, List.length_drop, hlen, Array.length_toList]
      omega
    · have hsp : (splice lu off ld).length = lu.length := length_splice _ _ _ hfit
      rw [hsp]
      unfold splice
      rw [List.map_append, List.map_append, List.map_take, List.map_drop, ← h2]
      have e1 : off ≤ lu.length := by omega
      have e2 : off ≤ cur.toList.length := by rw [Array.length_toList]; omega
      rw [List.take_append, List.take_append, List.length_take, Nat.min_eq_left e2, List.take_take, Nat.min_eq_right e1, hlen, List.take_of_length_le (l := ld.map _) (by rw [hlen]; omega), List.take_take, Nat.min_eq_left e1, List.take_drop]
      rw [show off + ld.length + (lu.length - off - ld.length) = lu.length from by omega]

end Go.Proofs.Ytfhmhkbjcccejaa

namespace Go.Proofs.Ytfhmhkbjcccejaa
open Go.RowKit

/-- What divided returns. -/
def RetDv (x y : Nat) (w : World) (e : Ending) (w' : World) : Prop :=
  ∃ v1 v2 l1 l2, e = .returned (.tuple #[v1, v2]) ∧ Ls w' v1 l1 ∧ Ls w' v2 l2 ∧ x = val l1 * y + val l2 ∧ val l2 < y ∧ l1.length ≤ 250002 ∧ l2.length ≤ 250002 ∧ Below w.heap.size w w'

/-- What is left and what has been found, from digit k on. -/
def DivR (w : World) (gu gv gq k0 : Nat) (lu0 lv : List Nat) (i : Value) (wr : World) : Prop :=
  ∃ (k : Nat) (lu q : List Nat), k ≤ k0 ∧ i = .int .i64 ((k : Int) - 1) ∧ lu.length = lu0.length ∧ Dl lu ∧ Buf wr gu lu ∧ Buf wr gv lv ∧ q.length = k0 ∧ Dl q ∧ RowI wr gq q ∧
    val lu0 = val lv * (Bs ^ k * val (q.drop k)) + val lu ∧ val (lu.drop k) < val lv ∧ Below w.heap.size w wr


theorem div_start {la lb lu lv1 : List Nat} {n m k0 f : Nat} (hda : Dl la) (hla : la.length = n) (hlb : lb.length = m) (hzb : Nz lb) (hm : 2 ≤ m) (hk0 : n + 1 = k0 + m) (hf0 : 0 < f) (hmul : val lb * f < Bs ^ m) (hlu : lu.length = n + 1) (hvu : val lu = val la * f)
    (hdv : Dl lv1) (hlv : lv1.length = m + 1) (hvv : val lv1 = val lb * f) : (lv1.take m).length = m ∧ val (lv1.take m) = val lb * f ∧ 0 < (lv1.take m).getD (m - 1) 0 ∧ val (lu.drop k0) < val lb * f := by
  have e1 : (lv1.take m).length = m := by rw [List.length_take]; omega
  have e2 : val (lv1.take m) = val lb * f := by
    have h1 := val_take_succ lv1 m
    rw [val_take_all (by omega), hvv] at h1
    rcases Nat.eq_zero_or_pos (lv1.getD m 0) with h | h
    · rw [h, Nat.mul_zero, Nat.add_zero] at h1; exact h1.symm
    · have : Bs ^ m * 1 ≤ Bs ^ m * lv1.getD m 0 := Nat.mul_le_mul_left _ h
      omega
  have hlb1 : Bs ^ (m - 1) ≤ val lb := by
    have := Nz_ge hzb (by intro e; rw [e] at hlb; simp at hlb; omega)
    rw [hlb] at this; exact this
  have hbf : val lb * 1 ≤ val lb * f := Nat.mul_le_mul_left _ hf0
  refine ⟨e1, e2, Nz_of_ge (hdv.take m) (by rw [e1]; omega) (by rw [e2]; omega), ?_⟩
  have h1 := val_lt hda
  rw [hla] at h1
  have h2 := val_split lu (k := k0) (by omega)
  have h3 : val la * f < Bs ^ n * f := Nat.mul_lt_mul_of_pos_right h1 hf0
  have h4 : Bs ^ n = Bs ^ k0 * Bs ^ (m - 1) := by rw [← Nat.pow_add]; congr 1; omega
  rw [h4, Nat.mul_assoc] at h3
  have h5 : Bs ^ k0 * val (lu.drop k0) < Bs ^ k0 * (Bs ^ (m - 1) * f) := by omega
  have h6 := Nat.lt_of_mul_lt_mul_left h5
  have h7 : Bs ^ (m - 1) * f ≤ val lb * f := Nat.mul_le_mul_right _ hlb1
  omega

theorem min_facts {a T V1 E0 : Nat} (hE0 : min (T / V1) 1073741823 = E0) (h1 : a ≤ T / V1) (h2 : a < 1073741824) : a ≤ E0 ∧ E0 ≤ 1073741823 := by
  rw [← hE0]
  exact ⟨Nat.le_min.2 ⟨h1, by omega⟩, Nat.min_le_right _ _⟩
theorem min_int {T V1 E0 : Nat} (hTb : T ≤ 1152921504606846976) (hE0 : min (T / V1) 1073741823 = E0) : min (wrap64 ((T : Int) / (V1 : Int))) 1073741823 = (E0 : Int) := by
  have e : (T : Int) / (V1 : Int) = ((T / V1 : Nat) : Int) := rfl
  have h3 : T / V1 ≤ T := Nat.div_le_self _ _
  rw [e, ← hE0]
  generalize T / V1 = u at h3
  rw [IntWalk.wrap64_in (u : Int) (by omega)]
  omega

theorem Lc.cells {w : World} {b off : Nat} {l : List Nat} (h : Lc w (some ⟨b, off, none⟩) l) : ∀ (j : Nat) (u : Value), (l.map fun (d : Nat) => Value.int .i64 (d : Int))[j]? = some u → w.cell? ((⟨b, off, none⟩ : Addr).add j) = some u := by
  intro j u hj
  rw [List.getElem?_map] at hj
  rcases Nat.lt_or_ge j l.length with hjl | hjl
  · rw [List.getElem?_eq_getElem hjl] at hj
    simp at hj
    subst hj
    have := h.at hjl
    simp only [List.getD_eq_getElem?_getD, List.getElem?_eq_getElem hjl, Option.getD_some] at this
    have hadd : (⟨b, off, none⟩ : Addr).add j = ⟨b, off + j, none⟩ := by unfold Addr.add; split <;> simp_all
    rw [hadd]
    exact this
  · rw [List.getElem?_eq_none hjl] at hj
    cases hj
theorem own_of {w : World} {B n : Nat} {v : Value} {l : List Nat} (h : w.ownsRow B 3 1 v (0 + n) ([] ++ l.map fun (d : Nat) => .int .i64 (d : Int))) (hl : l.length = n) : Own w B v l := by
  rw [Nat.zero_add, List.nil_append, ← hl] at h
  exact h
theorem rtrim_win {w : World} {A : Option Addr} {n c : Nat} {l : List Nat} (hl : l.length = n) (hc : n ≤ c ∧ c ≤ 9223372036854775807) (hA : Lc w A l) :
    Calls Try.prog 100 #[.slice A n c] w fun e w' => ∃ k, e = .returned (.slice A k c) ∧ k ≤ n ∧ Nz (l.take k) ∧ val (l.take k) = val l ∧ w = w' := by
  have h := rtrim_any A c l w (by rw [hl]; exact hc.1) hc.2 hA
  rw [hl] at h
  exact h

theorem cmp_le_of {x y : Nat} (h : x ≤ y) : decide (cmpN x y ≤ 0) = true := by
  unfold cmpN
  split
  · decide
  · rw [if_neg (by omega)]; decide
theorem cmp_nle_of {x y : Nat} (h : y < x) : decide (cmpN x y ≤ 0) = false := by
  unfold cmpN
  rw [if_neg (by omega), if_pos h]
  decide

theorem take_val {l : List Nat} {k : Nat} (hk : k ≤ l.length) (h : val l < Bs ^ k) : val (l.take k) = val l := by
  have h1 := val_split l hk
  rcases Nat.eq_zero_or_pos (val (l.drop k)) with h2 | h2
  · rw [h2, Nat.mul_zero, Nat.add_zero] at h1; exact h1.symm
  · have h3 : Bs ^ k * 1 ≤ Bs ^ k * val (l.drop k) := Nat.mul_le_mul_left _ h2
    omega
theorem div_end {x y f Q lx q8 r8 : Nat} (h1 : x * f = y * f * Q + lx) (h2 : lx < y * f) (h3 : lx = q8 * f + r8) (hr : r8 < f) : x = Q * y + q8 ∧ q8 < y := by
  have hf : 0 < f := by omega
  have e1 : x * f = (Q * y + q8) * f + r8 := by
    rw [h1, h3, Nat.add_mul, Nat.mul_right_comm y f Q, Nat.mul_comm y Q, Nat.add_assoc]
  have e2 : r8 = 0 := by
    have h4 : (x * f) % f = 0 := Nat.mul_mod_left _ _
    rw [e1, Nat.mul_add_mod_self_right, Nat.mod_eq_of_lt hr] at h4
    exact h4
  rw [e2, Nat.add_zero] at e1 h3
  refine ⟨Nat.eq_of_mul_eq_mul_right hf e1, ?_⟩
  rw [h3] at h2
  exact Nat.lt_of_mul_lt_mul_right h2

theorem win_facts {lu lv : List Nat} {j m k0 : Nat} (hlu : lu.length = k0 + m) (hd : Dl lu) (hlv : lv.length = m) (hdv : Dl lv) (hj : j < k0) (hlt : val (lu.drop (j + 1)) < val lv) :
    ((lu.drop j).take (m + 1)).length = m + 1 ∧ Dl ((lu.drop j).take (m + 1)) ∧ val ((lu.drop j).take (m + 1)) = val (lu.drop j) ∧ val (lu.drop j) < Bs * val lv ∧ val (lu.drop (j + (m + 1))) = 0 := by
  have e1 : ((lu.drop j).take (m + 1)).length = m + 1 := by rw [List.length_take, List.length_drop]; omega
  have h1 : val (lu.drop j) < Bs * val lv := by
    rw [val_drop (l := lu) (k := j) (by omega)]
    have h2 := hd.getD j
    have h3 : Bs * (val (lu.drop (j + 1)) + 1) ≤ Bs * val lv := Nat.mul_le_mul_left _ hlt
    rw [Nat.mul_add] at h3
    omega
  have h2 := val_lt hdv
  rw [hlv] at h2
  have h3 := val_split (lu.drop j) (k := m + 1) (by rw [List.length_drop]; omega)
  rw [List.drop_drop] at h3
  have h4 : val (lu.drop (j + (m + 1))) = 0 := by
    rcases Nat.eq_zero_or_pos (val (lu.drop (j + (m + 1)))) with h | h
    · exact h
    · have h5 : Bs ^ (m + 1) * 1 ≤ Bs ^ (m + 1) * val (lu.drop (j + (m + 1))) := Nat.mul_le_mul_left _ h
      have h6 : Bs * val lv < Bs * Bs ^ m := Nat.mul_lt_mul_of_pos_left h2 Bs_pos
      rw [show Bs * Bs ^ m = Bs ^ (m + 1) from by rw [Nat.pow_succ, Nat.mul_comm]] at h6
      omega
  refine ⟨e1, (hd.drop j).take _, ?_, h1, h4⟩
  rw [h4, Nat.mul_zero, Nat.add_zero] at h3
  exact h3.symm

theorem round_facts {lu lv lu0 q ld : List Nat} {j m k0 e : Nat} (hlu : lu.length = k0 + m) (hd : Dl lu) (hj : j < k0) (hq : q.length = k0) (hld : ld.length = m + 1) (hdd : Dl ld) (hv0 : 0 < val lv)
    (he : e = val (lu.drop j) / val lv) (hv : val ld + val lv * e = val (lu.drop j)) (hz : val (lu.drop (j + (m + 1))) = 0) (hinv : val lu0 = val lv * (Bs ^ (j + 1) * val (q.drop (j + 1))) + val lu) :
    (splice lu j ld).length = lu.length ∧ Dl (splice lu j ld) ∧ val lu0 = val lv * (Bs ^ j * val ((q.set j e).drop j)) + val (splice lu j ld) ∧ val ((splice lu j ld).drop j) < val lv := by
  have ejl : (lu.take j).length = j := by rw [List.length_take]; omega
  have e1 : (splice lu j ld).drop j = ld ++ lu.drop (j + (m + 1)) := by
    unfold splice
    rw [hld, List.drop_append, ejl, Nat.sub_self, List.drop_zero, List.drop_of_length_le (by rw [ejl]; exact Nat.le_refl _), List.nil_append]
  have e2 : val ((splice lu j ld).drop j) = val ld := by rw [e1, val_append, hz, Nat.mul_zero, Nat.add_zero]
  have e3 : (splice lu j ld).length = lu.length := length_splice _ _ _ (by rw [hld]; omega)
  have e4 : val (splice lu j ld) = val (lu.take j) + Bs ^ j * val ld := by
    unfold splice
    rw [val_append, ejl, val_append, hld, hz, Nat.mul_zero, Nat.add_zero]
  have h1 := val_split lu (k := j) (by omega)
  refine ⟨e3, ?_, ?_, ?_⟩
  · unfold splice
    exact (hd.take j).app (hdd.app (hd.drop _))
  · rw [val_drop (l := q.set j e) (by rw [List.length_set]; omega), getD_set _ _ _ _ (by omega), if_pos rfl, List.drop_set_of_lt (by omega), e4, hinv, h1, ← hv, Nat.pow_succ]
    generalize val (q.drop (j + 1)) = Q
    generalize val lv = V
    generalize Bs ^ j = P
    generalize val (lu.take j) = L
    generalize val ld = D
    simp only [Nat.mul_add]
    have e5 : P * (V * e) = V * (P * e) := Nat.mul_left_comm _ _ _
    have e6 : V * (P * Bs * Q) = V * (P * (Bs * Q)) := by rw [Nat.mul_assoc P]
    omega
  · rw [e2]
    have h2 := Nat.div_add_mod (val (lu.drop j)) (val lv)
    have h3 := Nat.mod_lt (val (lu.drop j)) hv0
    rw [← he] at h2
    omega

set_option maxRecDepth 100000 in
set_option maxHeartbeats 20000000 in
theorem divided_long (A B : Option Addr) (n m k0 ca cb : Nat) (la lb : List Nat) (w : World) (hn : n ≤ 250000) (hm2 : 2 ≤ m) (hk0 : n + 1 = k0 + m) (hla : la.length = n) (hlb : lb.length = m) (hA : Lc w A la) (hB : Lc w B lb) (hda : Dl la) (hdb : Dl lb) (hza : Nz la) (hzb : Nz lb) (hge : val lb ≤ val la) :
    Calls Try.prog 83 #[.slice A n ca, .slice B m cb] w (RetDv (val la) (val lb) w) := by
  obtain ⟨t, ht⟩ : ∃ t, lb.getD (m - 1) 0 = t := ⟨_, rfl⟩
  have ht0 : 0 < t := by rw [← ht, ← hlb]; exact top_pos hzb (by omega)
  have ht1 : t < 1073741824 := by rw [← ht]; exact hdb.getD _
  obtain ⟨f, hf⟩ : ∃ f, 1073741824 / (t + 1) = f := ⟨_, rfl⟩
  have hfI : (1073741824 : Int) / ((t : Int) + 1) = (f : Int) := by rw [← hf]; rfl
  have hf0 : 0 < f := by rw [← hf]; exact fac_pos ht1
  have hf1 : f < 1073741824 := by rw [← hf]; exact fac_lt ht0
  have hmul : val lb * f < Bs ^ m := by
    rw [← hf, ← ht]
    have := fac_mul hdb (m := m - 1) (by omega)
    rw [show m - 1 + 1 = m from by omega] at this
    exact this
  have HMUL := Lib.hid hmul
  obtain ⟨b, off, rfl, -, hcells⟩ := id hB (by omega)
  have hct := hcells (m - 1) (by omega)
  rw [ht] at hct
  have g1 : ((m : Int) == 1) = false := by rw [beq_eq_false_iff_ne]; omega
  obtain ⟨q, hq⟩ : ∃ q, cmpN (val la) (val lb) = q := ⟨_, rfl⟩
  have hq0 : decide (q < 0) = false := by
    rw [← hq]; unfold cmpN
    rw [if_neg (by omega)]
    split <;> rfl
  have HC : Hid (∀ wx, Below w.heap.size w wx → Calls Try.prog 94 #[.slice A n ca, .slice (some ⟨b, off, none⟩) m cb] wx fun e w' => e = .returned (.int .i64 q) ∧ Drn wx w') := fun wx hb => by
    rw [← hq]
    exact rcmp_any A _ n m ca cb la lb wx (by omega) hla hlb (hA.keep hb) (hB.keep hb) hda hdb hza hzb
  have HSA : Hid (∀ wx, Below w.heap.size w wx → Calls Try.prog 99 #[.slice A n ca, .int .i64 (f : Int)] wx (RetO (fun l => l.length = n + 1 ∧ val l = val la * f) wx)) := fun wx hb => sca_own A n ca f la wx (by omega) hf1 hla (hA.keep hb) hda
  have HSB : Hid (∀ wx, Below w.heap.size w wx → Calls Try.prog 99 #[.slice (some ⟨b, off, none⟩) m cb, .int .i64 (f : Int)] wx (RetO (fun l => l.length = m + 1 ∧ val l = val lb * f) wx)) := fun wx hb => sca_own _ m cb f lb wx (by omega) hf1 hlb (hB.keep hb) hdb
  have hkI : (n : Int) + 1 - (m : Int) = (k0 : Int) := by omega
  have hk1 : 0 < k0 := by
    have := len_le_of_val hda hzb hge
    omega
  have hmk := make_rowI k0 (by omega)
  have HLA := Lib.hid hla
  have HLB := Lib.hid hlb
  have HDA := Lib.hid hda
  have HDB := Lib.hid hdb
  have HZB := Lib.hid hzb
  have HF := Lib.hid hf
  have HT := Lib.hid ht
  clear hcells hq hla hlb hda hdb hza hzb hge hf ht hmul hA hB
  go_enter Try.func83, Try.ntmps83
  go_wp2_with fail
  (with_reducible refine (HC.out _ (Below.refl _ _)).mono ?_)
  rintro e wd ⟨rfl, hdr⟩
  have hctd := (hdr.cell ⟨b, off + (m - 1), none⟩).trans hct
  have HD := Lib.hid (hdr.below w.heap.size)
  clear hdr hct
  go_upto_region 7 with fail
  go_region_held3 (fun w' => True) (trivial)
    (first
      | (go_at_call 99; (with_reducible refine (HSA.out _ (by repeat (first | exact HD.out | refine Below.drew ?_))).mono ?_); rintro e w1 ⟨v1, lu, rfl, hown1, hdl1, ⟨hlen1, hval1⟩, hB1⟩; obtain ⟨gu, cu, rfl, hgu, hbu, hcu1, hcu2⟩ := Buf.of hown1 (by omega); rw [hlen1]; rw [hlen1] at hcu1; (have R1 : Below wd.heap.size wd w1 := by first | exact hB1 | exact below_undrew' hB1); have HR1 := Lib.hid (HD.out.trans (R1.mono HD.out.size)); have HGU : Hid (w.heap.size ≤ gu) := Nat.le_trans HD.out.size hgu; have HBU := Lib.hid hbu; have HDU := Lib.hid hdl1; have HLU := Lib.hid hlen1; have HVU := Lib.hid hval1; clear hown1 hdl1 hlen1 hval1 hB1 R1 hbu hgu)
      | (go_at_call 99; (with_reducible refine (HSB.out _ (by repeat (first | exact HR1.out | refine Below.drew ?_))).mono ?_); rintro e w2 ⟨v2, lv1, rfl, hown2, hdl2, ⟨hlen2, hval2⟩, hB2⟩; obtain ⟨gv, cv, rfl, hgv, hbv, hcv1, hcv2⟩ := Buf.of hown2 (by omega); rw [hlen2]; rw [hlen2] at hcv1; (have R2 : Below w1.heap.size w1 w2 := by first | exact hB2 | exact below_undrew' hB2); have HR2 := Lib.hid (HR1.out.trans (R2.mono HR1.out.size)); have HGV : Hid (w1.heap.size ≤ gv) := hgv; have HBV := Lib.hid hbv; have HDV := Lib.hid hdl2; have HLV := Lib.hid hlen2; have HVV := Lib.hid hval2; have hcvI : (m : Int) ≤ (cv : Int) := (by omega); have hmI : (0 : Int) ≤ (m : Int) := (by omega); have HBU2 := Lib.hid (HBU.out.keep R2); have HUV : Hid (gu < w1.heap.size) := HBU.out.lt; clear hown2 hdl2 hlen2 hval2 hB2 R2 hbv hgv))
  all_goals go_wp2_with fail
  have HST := Lib.hid (div_start HDA.out HLA.out HLB.out HZB.out hm2 hk0 hf0 HMUL.out HLU.out HVU.out HDV.out HLV.out HVV.out)
  obtain ⟨lv, hlv⟩ : ∃ lv, lv1.take m = lv := ⟨_, rfl⟩
  have HLVL : Hid (lv.length = m) := by rw [← hlv]; exact HST.out.1
  have HLVV : Hid (val lv = val lb * f) := by rw [← hlv]; exact HST.out.2.1
  have HLVT : Hid (0 < lv.getD (m - 1) 0) := by rw [← hlv]; exact HST.out.2.2.1
  have HLVD : Hid (Dl lv) := by rw [← hlv]; exact HDV.out.take m
  have HBVL : Hid (Buf w2 gv lv) := by rw [← hlv]; exact HBV.out.take m
  have HLT0 := Lib.hid HST.out.2.2.2
  have HQ0 : Hid (RowI (w2.alloc (.cells (madeCells #[.int .i64 0] k0) 3)) w2.heap.size (List.replicate k0 0)) := RowI.new w2 k0
  have hgq1 : Hid (gu ≠ w2.heap.size) := Nat.ne_of_lt HBU2.out.lt
  have hgq2 : Hid (gv ≠ w2.heap.size) := Nat.ne_of_lt HBV.out.lt
  have huv : Hid (gu ≠ gv) := Nat.ne_of_lt (Nat.lt_of_lt_of_le HUV.out HGV.out)
  have HV0 : Hid (0 < val lv) := by
    show 0 < val lv
    have h1 := HLVT.out
    have h2 := val_take_succ lv (m - 1)
    rw [val_take_all (by rw [HLVL.out]; omega)] at h2
    have h3 : 1 * 1 ≤ Bs ^ (m - 1) * lv.getD (m - 1) 0 := Nat.mul_le_mul (Bs_pow_pos _) h1
    omega
  have HBASE : Hid (w.heap.size ≤ gu ∧ w.heap.size ≤ gv ∧ w.heap.size ≤ w2.heap.size) := ⟨HGU.out, Nat.le_trans HR1.out.size HGV.out, HR2.out.size⟩
  clear hlv HST
  clear hmk hctd
  go_loopw [12] (fun i wr => DivR w gu gv w2.heap.size k0 lu lv i wr) (fun i _ => (intOf i + 1).toNat)
  case atStart =>
    exact ⟨k0, lu, List.replicate k0 0, Nat.le_refl _, rfl, rfl, HDU.out, HBU2.out.keep (below_alloc _ _), HBVL.out.keep (below_alloc _ _), by simp, Dl.zeros _, HQ0.out, by rw [List.drop_of_length_le (by simp)]; simp [val], by rw [HLVV.out]; exact HLT0.out, HR2.out.alloc HBASE.out.2.2 _⟩
  case round =>
    obtain ⟨k, lx, q', hk, rfl, hlx, hdx, hbx, hbv, hql, hqd, hrow, hinv, hlt, hbel⟩ := hrel
    have HX1 := Lib.hid hlx
    have HX2 := Lib.hid hdx
    have HX3 := Lib.hid hbx
    have HX4 := Lib.hid hbv
    have HX5 := Lib.hid hql
    have HX6 := Lib.hid hqd
    have HX7 := Lib.hid hrow
    have HX8 := Lib.hid hinv
    have HX9 := Lib.hid hlt
    have HXB := Lib.hid hbel
    clear hlx hdx hbx hbv hql hqd hrow hinv hlt hbel
    rcases Nat.eq_zero_or_pos k with h0 | h0
    · subst h0
      rw [show (((0 : Nat) : Int) - 1) = -1 from rfl]
      go_wp2_with fail
      have HTK : Hid (val (lx.take m) = val lx) := take_val (by rw [HX1.out, HLU.out]; omega) (by
        have h1 := HX9.out
        have h2 := val_lt HLVD.out
        rw [List.drop_zero] at h1
        rw [HLVL.out] at h2
        omega)
      have HSH : Hid (Calls Try.prog 98 #[.slice (some ⟨gu, 0, none⟩) m cu, .int .i64 (f : Int)] wr (RetSh (lx.take m) f wr)) :=
        sho_any _ m cu f (lx.take m) wr (by omega) hf0 (by omega) (by rw [List.length_take, HX1.out, HLU.out]; omega) (HX3.out.lc.take m) (HX2.out.take m)
      (with_reducible refine HSH.out.mono ?_)
      rintro e w8 ⟨v8, q8, r8, rfl, hv8, hql8, hval8, hr8, hB8⟩
      have HV8 := Lib.hid hv8
      have HQL8 := Lib.hid hql8
      have HVA8 := Lib.hid hval8
      have HR8 := Lib.hid hr8
      have HB8 := Lib.hid hB8
      clear hv8 hql8 hval8 hr8 hB8
      go_wp2_with fail
      go_ret2
      have hfin := div_end (x := val la) (y := val lb) (f := f) (Q := val q') (lx := val lx) (q8 := val q8) (r8 := r8) (by
        have h1 := HX8.out
        rw [List.drop_zero, Nat.pow_zero, Nat.one_mul, HVU.out, HLVV.out] at h1
        exact h1) (by
        have h1 := HX9.out
        rw [List.drop_zero, HLVV.out] at h1
        exact h1) (by rw [← HTK.out]; exact HVA8.out) HR8.out
      exact ⟨.slice (some ⟨w2.heap.size, 0, none⟩) k0 k0, v8, q', q8, rfl, ⟨some ⟨w2.heap.size, 0, none⟩, k0, by rw [HX5.out], by rw [HX5.out]; omega, HX6.out, (HX7.out.keep HB8.out).lc⟩, HV8.out, hfin.1, hfin.2, by rw [HX5.out]; omega, by rw [HQL8.out, List.length_take]; omega, HXB.out.trans (HB8.out.mono HXB.out.size)⟩
    · obtain ⟨j, rfl⟩ : ∃ j, k = j + 1 := ⟨k - 1, by omega⟩
      have ej : (((j + 1 : Nat) : Int) - 1) = (j : Int) := by omega
      rw [ej]
      clear ej h0
      have hj : j < k0 := by omega
      have HXL : Hid (lx.length = k0 + m) := by
        show lx.length = k0 + m
        rw [HX1.out, HLU.out]; omega
      have HW := Lib.hid (win_facts HXL.out HX2.out HLVL.out HLVD.out hj HX9.out)
      have cu1 := HX3.out.cell (i := j + m) (by rw [HXL.out]; omega)
      have cu2 := HX3.out.cell (i := j + m - 1) (by rw [HXL.out]; omega)
      have cv1 := HX4.out.cell (i := m - 1) (by rw [HLVL.out]; omega)
      obtain ⟨U1, hU1⟩ : ∃ U1, lx.getD (j + m) 0 = U1 := ⟨_, rfl⟩
      obtain ⟨U0, hU0⟩ : ∃ U0, lx.getD (j + m - 1) 0 = U0 := ⟨_, rfl⟩
      obtain ⟨V1, hV1⟩ : ∃ V1, lv.getD (m - 1) 0 = V1 := ⟨_, rfl⟩
      rw [hU1] at cu1
      rw [hU0] at cu2
      rw [hV1] at cv1
      have bU1 : U1 < 1073741824 := by have := HX2.out.getD (j + m); rw [Bs_eq, hU1] at this; exact this
      have bU0 : U0 < 1073741824 := by have := HX2.out.getD (j + m - 1); rw [Bs_eq, hU0] at this; exact this
      have bV1 : V1 < 1073741824 := by have := HLVD.out.getD (m - 1); rw [Bs_eq, hV1] at this; exact this
      have bV0 : 0 < V1 := by rw [← hV1]; exact HLVT.out
      have HU1 := Lib.hid hU1
      have HU0 := Lib.hid hU0
      have HV1 := Lib.hid hV1
      clear hU1 hU0 hV1
      obtain ⟨T, hT⟩ : ∃ T, U1 * 1073741824 + U0 = T := ⟨_, rfl⟩
      have hTI : (U1 : Int) * 1073741824 + (U0 : Int) = (T : Int) := by omega
      have hTb : T ≤ 1152921504606846976 := by omega
      have HTT := Lib.hid hT
      clear hT
      have hs1 : (j : Int) + (m : Int) < (k0 : Int) + (m : Int) := by omega
      have hs2 : (0 : Int) ≤ (j : Int) + (m : Int) - 1 := by omega
      have hs3 : ((j : Int) + (m : Int)).toNat = j + m := by omega
      have hs4 : ((j : Int) + (m : Int) - 1).toNat = j + m - 1 := by omega
      have hs5 : (0 : Int) ≤ (m : Int) - 1 := by omega
      have hs6 : ((m : Int) - 1).toNat = m - 1 := by omega
      go_wp2_with fail
      go_quiet (fail)
      go_wp2_with fail
      obtain ⟨Wv, hWv⟩ : ∃ Wv, val (lx.drop j) = Wv := ⟨_, rfl⟩
      obtain ⟨V, hVV⟩ : ∃ V, val lv = V := ⟨_, rfl⟩
      have HWV := Lib.hid hWv
      have HVL := Lib.hid hVV
      have HVp : Hid (0 < V) := by rw [← hVV]; exact HV0.out
      obtain ⟨E0, hE0⟩ : ∃ E0, min (T / V1) 1073741823 = E0 := ⟨_, rfl⟩
      have hE : min (wrap64 ((T : Int) / (V1 : Int))) 1073741823 = (E0 : Int) := min_int hTb hE0
      have HE12 : Wv / V ≤ E0 ∧ E0 ≤ 1073741823 := by
        refine min_facts hE0 ?_ ?_
        rotate_left
        · rw [← Bs_eq, Nat.div_lt_iff_lt_mul HVp.out, ← hWv, ← hVV]
          exact HW.out.2.2.2.1
        have h1 := est_le HW.out.2.1 (m := m - 1) (by rw [HW.out.1]; omega) (by rw [HLVL.out]; omega) HLVT.out
        rw [HW.out.2.2.1, hWv, hVV] at h1
        have e1 : ((lx.drop j).take (m + 1)).getD (m - 1 + 1) 0 = U1 := by
          rw [getD_take (by omega), getD_drop, ← HU1.out]
          congr 1; omega
        have e2 : ((lx.drop j).take (m + 1)).getD (m - 1) 0 = U0 := by
          rw [getD_take (by omega), getD_drop, ← HU0.out]
          congr 1; omega
        rw [e1, e2, HV1.out, Bs_eq, HTT.out] at h1
        exact h1
      have HE1 := Lib.hid HE12.1
      have HE2 := HE12.2
      rw [hE]
      obtain ⟨wo, hwo⟩ : ∃ wo, wo = wr := ⟨_, rfl⟩
      subst hwo
      clear HE12
      clear hE hE0 hTI hTb hs1 hs2 hs3 hs4 hs5 hs6 cu1 cu2 cv1 bU1 bU0 bV1 bV0 hWv hVV HTT HU1 HU0 HV1
      go_loopw [13] (fun e wx => ∃ E : Nat, e = .int .i64 (E : Int) ∧ Hid (Wv / V ≤ E) ∧ E ≤ 1073741823 ∧ Below wo.heap.size wo wx) (fun e _ => (intOf e).toNat)
      case atStart => exact ⟨E0, rfl, HE1.out, HE2, (Drn.more (Drn.refl wo) _).below _⟩
      case round =>
        obtain ⟨E, rfl, hE, hE2, hbx⟩ := hrel
        have HBX := Lib.hid hbx
        clear hbx
        have HSC : Hid (∀ wy, Below wo.heap.size wo wy → Calls Try.prog 99 #[.slice (some ⟨gv, 0, none⟩) m cv, .int .i64 (E : Int)] wy (RetL (fun l => l.length = m + 1 ∧ val l = val lv * E) wy)) := fun wy hb => sca_any _ m cv E lv wy (by omega) (by omega) HLVL.out (HX4.out.keep hb).lc HLVD.out
        go_wp2_with fail
        (with_reducible refine (HSC.out _ HBX.out).mono ?_)
        rintro e w3 ⟨vp, lp, rfl, hlp, ⟨hlp1, hlp2⟩, hB3⟩
        obtain ⟨Ap, cp, rfl, hcp, hdp, hCp⟩ := hlp
        rw [hlp1] at hcp ⊢
        have HLP1 := Lib.hid hlp1
        have HLP2 := Lib.hid hlp2
        have HCP := Lib.hid hcp
        have HDP := Lib.hid hdp
        have HCp := Lib.hid hCp
        have HB3 := Lib.hid (stepB HBX.out hB3)
        clear hlp1 hlp2 hcp hdp hCp hB3
        go_upto_region 15 with fail
        have HTR1 : Hid (∀ wy, Below w3.heap.size w3 wy → Calls Try.prog 100 #[.slice Ap (m + 1) cp] wy fun e w' => ∃ k, e = .returned (.slice Ap k cp) ∧ k ≤ m + 1 ∧ Nz (lp.take k) ∧ val (lp.take k) = val lp ∧ wy = w') := fun wy hb => by
          have h := rtrim_any Ap cp lp wy (by rw [HLP1.out]; exact HCP.out.1) HCP.out.2 (HCp.out.keep hb)
          rw [HLP1.out] at h
          exact h
        obtain ⟨i0, hi, hz0, hz1, hz2⟩ := info_parts info3
        obtain ⟨win, hwin⟩ : ∃ win, (lx.drop j).take (m + 1) = win := ⟨_, rfl⟩
        have HWN1 : Hid (win.length = m + 1) := by rw [← hwin]; exact HW.out.1
        have HWN2 : Hid (Dl win) := by rw [← hwin]; exact HW.out.2.1
        have HWN3 : Hid (val win = Wv) := by rw [← hwin, ← HWV.out]; exact HW.out.2.2.1
        have HWC : Hid (∀ wy, Below w3.heap.size w3 wy → Lc wy (some ⟨gu, j, none⟩) win) := fun wy hb => by
          rw [← hwin]
          have h := (((HX3.out.keep (stepB HB3.out hb)).lc).drop j).take (m + 1)
          rw [Nat.zero_add] at h
          exact h
        clear hwin
        have hs1 : (0 : Int) ≤ (j : Int) + (m : Int) + 1 := by omega
        have hs2 : (j : Int) ≤ (j : Int) + (m : Int) + 1 := by omega
        have hs3 : (j : Int) + (m : Int) + 1 ≤ (cu : Int) := by omega
        have hs4 : ((j : Int) + (m : Int) + 1).toNat = j + (m + 1) := by omega
        have hs5 : IntKind.i64.wrap ((j : Int) + (m : Int)) = (j : Int) + (m : Int) := IntWalk.i64_in _ (by omega)
        have hs6 : IntKind.i64.wrap ((j : Int) + (m : Int) + 1) = (j : Int) + (m : Int) + 1 := IntWalk.i64_in _ (by omega)
        have hs7 : ¬ cu = j := by omega
        have hs8 : ¬ j = cu := by omega
        go_region_held3 (fun w' => True) (trivial)
          (first
            | (go_at_call 100; (with_reducible refine (HTR1.out _ (by repeat (first | exact Below.refl _ _ | refine Below.drew ?_ | refine Below.alloc ?_ (Nat.le_refl _) _))).mono ?_); rintro e w4 ⟨k1, rfl, hk1', hnz1, hval1, rfl⟩; have HK1 := Lib.hid hk1'; have HNZ1 := Lib.hid hnz1; have HVA1 := Lib.hid hval1; clear hk1' hnz1 hval1)
            | (go_at_call 100; (with_reducible refine (rtrim_win HWN1.out HLC5.out HC5.out).mono ?_); rintro e w6 ⟨k2, rfl, hk2', hnz2, hval2, rfl⟩; have HK2 := Lib.hid hk2'; have HNZ2 := Lib.hid hnz2; have HVA2 := Lib.hid hval2; clear hk2' hnz2 hval2)
            | (go_at_call 94; (with_reducible refine (rcmp_any Ap A5 k1 k2 cp c5 (lp.take k1) (win.take k2) _ (by have := HK1.out; omega) (by rw [List.length_take, HLP1.out]; have := HK1.out; omega) (by rw [List.length_take, HWN1.out]; have := HK2.out; omega) ((HCp.out.keep HB5.out).take k1) (HC5.out.take k2) (HDP.out.take k1) (HWN2.out.take k2) HNZ1.out HNZ2.out).mono ?_); rintro e w7 ⟨rfl, hdr7⟩; have HDR7 := Lib.hid hdr7; clear hdr7)
            | (refine step_append_grows rfl (.tmp 95) (.tmp 102) 34 rfl 3 i0 (.int .i64 0) 1 8 Try.underlying34 hi hz0 hz1 hz2 rfl (by decide) _ 0 0 [] rfl (fun h => by cases h) rfl (fun _ _ _ _ h => by simp at h) ⟨gu, j, none⟩ (m + 1) (cu - j) (win.map fun (d : Nat) => .int .i64 (d : Int)) (by first | rfl | (simp [Act.eval]; done) | (simp [Act.eval]; omega)) (by rw [List.length_map, HWN1.out]; omega) (Lc.cells (HWC.out _ (by repeat (first | exact Below.refl _ _ | refine Below.drew ?_ | refine Below.alloc ?_ (Nat.le_refl _) _)))) (fun u hu => by obtain ⟨x, _, rfl⟩ := List.mem_map.1 hu; rfl) (by omega) (by unfold maxLen; omega) (by omega) ?_; intro v' w5 hown5 hgrow5; have hO5 : Own w5 _ v' win := own_of hown5 HWN1.out; obtain ⟨A5, c5, rfl, hlc5, hd5, hC5⟩ := hO5.ls HWN2.out; rw [HWN1.out] at hlc5 ⊢; have HB5 := Lib.hid (Below.grown (B := w3.heap.size) (a := w3) (by repeat (first | exact Below.refl _ _ | refine Below.drew ?_ | refine Below.alloc ?_ (Nat.le_refl _) _)) hgrow5 (by simp) (fun k hk => by cases hk)); have HLC5 := Lib.hid hlc5; have HC5 := Lib.hid hC5; clear hown5 hgrow5 hO5 hlc5 hd5 hC5))
        all_goals
          have HB7 := Lib.hid (stepB HB5.out (HDR7.out.below _))
          have HB73 := Lib.hid (stepB HB3.out HB7.out)
          obtain ⟨cc, hcc⟩ : ∃ cc, cmpN (val (lp.take k1)) (val (win.take k2)) = cc := ⟨_, rfl⟩
          rw [hcc]
          have hc2 : cmpN (V * E) Wv = cc := by
            rw [← hcc, HVA1.out, HVA2.out, HLP2.out, HWN3.out, HVL.out]
          clear hcc
          by_cases hle : V * E ≤ Wv
          · have hd0 : decide (cc ≤ 0) = true := by rw [← hc2]; exact cmp_le_of hle
            have hd1 : cc ≤ 0 := of_decide_eq_true hd0
            have HEQ : Hid (E = Wv / V) := by
              have h1 := hE.out
              have h2 : E ≤ Wv / V := by rw [Nat.le_div_iff_mul_le HVp.out, Nat.mul_comm]; exact hle
              show E = Wv / V
              omega
            have HLE := Lib.hid hle
            clear hc2 hle
            have HDF : Hid (Calls Try.prog 95 #[.slice (some ⟨gu, j, none⟩) (m + 1) (cu - j), .slice Ap (m + 1) cp] w7 (RetL (fun l => l.length = m + 1 ∧ val l + val lp = val win) w7)) :=
              dif_any _ Ap (m + 1) (m + 1) _ cp win lp w7 (by omega) (Nat.le_refl _) HWN1.out HLP1.out (HDR7.out.lc (HWC.out _ HB5.out)) (HDR7.out.lc (HCp.out.keep HB5.out)) HWN2.out HDP.out (by rw [HLP2.out, HWN3.out, HVL.out]; exact HLE.out)
            go_wp2_with fail
            (with_reducible refine HDF.out.mono ?_)
            rintro e w8 ⟨vd, ld, rfl, hld, ⟨hld1, hld2⟩, hB8⟩
            obtain ⟨Ad, cd, rfl, hcd, hdd, hCd⟩ := hld
            have HLD1 := Lib.hid hld1
            have HLD2 := Lib.hid hld2
            have HDD := Lib.hid hdd
            have HCd := Lib.hid hCd
            have HB8 := Lib.hid (stepB HB73.out hB8)
            have HU8 := Lib.hid (HX3.out.keep HB8.out)
            have HV8 := Lib.hid (HX4.out.keep HB8.out)
            have HQ8 := Lib.hid (HX7.out.keep HB8.out)
            have HS8 := Lib.hid (HXB.out.trans (HB8.out.mono HXB.out.size))
            clear hld1 hld2 hcd hdd hCd hB8
            have hs9 : (j : Int) ≤ (k0 : Int) + (m : Int) := by omega
            go_wp2_with ((with_reducible refine wpList_copy_buf rfl (.tmp 118) (.tmp 119) rfl gu j (k0 + m - j) (cu - j) ld lx Ad cd rfl rfl HCd.out (by rw [HLD1.out]; omega) (by rw [HLD1.out]; omega) HU8.out (by rw [HLD1.out, HXL.out]; omega) (fun w9 hbuf9 hoth9 hbel9 => ?_)); have HBF9 := Lib.hid hbuf9; have HOT9 := Lib.hid hoth9; have HBL9 := Lib.hid (hbel9 _ _ HS8.out HBASE.out.1); have HQ9 := Lib.hid (HQ8.out.block (hoth9 _ hgq1.out.symm)); have HV9 := Lib.hid (HV8.out.block (hoth9 _ huv.out.symm)); have c9 := HQ9.out.cell (i := j) (by rw [HX5.out]; exact hj); have f9 := HQ9.out.frozen j; clear hbuf9 hoth9 hbel9)
            have hrf := round_facts (e := E) (q := q') (lu0 := lu) HXL.out HX2.out hj HX5.out HLD1.out HDD.out HV0.out (by rw [HWV.out, HVL.out]; exact HEQ.out) (by rw [HVL.out, HWV.out]; have h1 := HLD2.out; rw [HLP2.out, HVL.out, HWN3.out] at h1; exact h1) HW.out.2.2.2.2 HX8.out
            exact ⟨⟨j, splice lx j ld, q'.set j E, by omega, rfl, hrf.1.trans HX1.out, hrf.2.1, HBF9.out.block (Below.heap_setCell _ _ _ _ hgq1.out), HV9.out.block (Below.heap_setCell _ _ _ _ hgq2.out), by rw [List.length_set]; exact HX5.out, HX6.out.set _ (by rw [Bs_eq]; omega), HQ9.out.set (by rw [HX5.out]; exact hj) E, hrf.2.2.1, hrf.2.2.2, HBL9.out.setCell HBASE.out.2.2 _⟩, by simp [intOf]⟩
          · have hd0 : decide (cc ≤ 0) = false := by rw [← hc2]; exact cmp_nle_of (Nat.lt_of_not_le hle)
            have hE3 : Wv / V < E := by
              rw [Nat.div_lt_iff_lt_mul HVp.out, Nat.mul_comm]
              omega
            have hd1 : ¬ cc ≤ 0 := of_decide_eq_false hd0
            have hE4 : 0 < (E : Int) := Int.ofNat_lt.2 (Nat.lt_of_le_of_lt (Nat.zero_le _) hE3)
            have HE3 := Lib.hid hE3
            clear hc2 hle hE3
            go_wp2_with fail
            go_roundw
            case rel => exact ⟨E - 1, int_eq (by omega), Nat.le_sub_one_of_lt HE3.out, by omega, HB73.out⟩
            case measure => simp [intOf]; omega

end Go.Proofs.Ytfhmhkbjcccejaa

namespace Go.Proofs.Ytfhmhkbjcccejaa
open Go.RowKit

set_option maxRecDepth 100000 in
set_option maxHeartbeats 4000000 in
theorem divided_one (A B : Option Addr) (n ca cb : Nat) (la lb : List Nat) (w : World) (hn : n ≤ 250000) (hla : la.length = n) (hlb : lb.length = 1) (hA : Lc w A la) (hB : Lc w B lb) (hda : Dl la) (hdb : Dl lb) (hzb : Nz lb) :
    Calls Try.prog 83 #[.slice A n ca, .slice B 1 cb] w (RetDv (val la) (val lb) w) := by
  obtain ⟨x, rfl⟩ : ∃ x, lb = [x] := List.length_eq_one_iff.1 hlb
  have hx0 : 0 < x := by have := top_pos hzb (by simp); simpa using this
  have hx1 : x < 1073741824 := by have := hdb x (by simp); rw [Bs_eq] at this; exact this
  obtain ⟨b, off, rfl, -, hcells⟩ := hB (by simp)
  have hc := hcells 0 (by simp)
  have hc0 : w.cell? ⟨b, off, none⟩ = some (.int .i64 (x : Int)) := by simpa using hc
  have HS : Hid (Calls Try.prog 98 #[.slice A n ca, .int .i64 (x : Int)] w (RetSh la x w)) := sho_any A n ca x la w (by omega) hx0 (by omega) hla hA hda
  have HV : Hid (val [x] = x) := val_one x
  have HLA := Lib.hid hla
  have HX0 := Lib.hid hx0
  rw [HV.out]
  clear hcells hc hlb hA hB hda hdb hzb hla
  go_enter Try.func83, Try.ntmps83
  go_wp2_with fail
  (with_reducible refine HS.out.mono ?_)
  rintro e w1 ⟨v, q, r, rfl, hv, hql, hval, hr, hB⟩
  have HR : Hid (RetDv (val la) x w (.returned (.tuple #[v, .slice (some ⟨w1.heap.size, 0, none⟩) 1 1])) (w1.alloc (.cells #[.int .i64 (r : Int)] 3))) :=
    ⟨v, _, q, [r], rfl, hv.keep (below_alloc w1 _), (Own.lit w1 (Nat.le_refl _) rfl).ls (Dl.nil.snoc (d := r) (by rw [Bs_eq]; omega)), by rw [val_one]; exact hval, by rw [val_one]; exact hr, by rw [hql, HLA.out]; omega, by simp, hB.alloc hB.size _⟩
  clear hv hql hval hr hB
  go_wp2_with fail
  go_ret2
  exact HR.out

set_option maxRecDepth 100000 in
set_option maxHeartbeats 4000000 in
theorem divided_less (A B : Option Addr) (n m ca cb : Nat) (la lb : List Nat) (w : World) (hn : n ≤ 250000) (hc : n ≤ ca ∧ ca ≤ 9223372036854775807) (hm2 : 2 ≤ m) (hla : la.length = n) (hlb : lb.length = m) (hA : Lc w A la) (hB : Lc w B lb) (hda : Dl la) (hdb : Dl lb) (hza : Nz la) (hzb : Nz lb) (hlt : val la < val lb) :
    Calls Try.prog 83 #[.slice A n ca, .slice B m cb] w (RetDv (val la) (val lb) w) := by
  have HC : Hid (Calls Try.prog 94 #[.slice A n ca, .slice B m cb] w fun e w' => e = .returned (.int .i64 (-1)) ∧ Drn w w') := by
    have h := rcmp_any A B n m ca cb la lb w (by omega) hla hlb hA hB hda hdb hza hzb
    rw [cmpN_lt hlt] at h
    exact h
  have g1 : ((m : Int) == 1) = false := by rw [beq_eq_false_iff_ne]; omega
  have HR : Hid (∀ w', Drn w w' → RetDv (val la) (val lb) w (.returned (.tuple #[.slice none 0 0, .slice A n ca])) w') := fun w' hd =>
    ⟨_, _, [], la, rfl, ⟨none, 0, rfl, ⟨Nat.le_refl _, Nat.zero_le _⟩, Dl.nil, Lc.nil w' _⟩, ⟨A, ca, by rw [hla], by rw [hla]; exact hc, hda, hd.lc hA⟩, by simp [val], hlt, by simp, by omega, hd.below _⟩
  clear hla hlb hA hB hda hdb hza hzb hlt hc
  go_enter Try.func83, Try.ntmps83
  go_wp2_with fail
  (with_reducible refine HC.out.mono ?_)
  rintro e w1 ⟨rfl, hdr⟩
  have HD := Lib.hid hdr
  clear hdr
  go_wp2_with fail
  go_ret2
  exact HR.out _ HD.out

theorem divided_any (A B : Option Addr) (n m ca cb : Nat) (la lb : List Nat) (w : World) (hn : n ≤ 250000) (hc : n ≤ ca ∧ ca ≤ 9223372036854775807) (hm : 0 < m) (hla : la.length = n) (hlb : lb.length = m) (hA : Lc w A la) (hB : Lc w B lb) (hda : Dl la) (hdb : Dl lb) (hza : Nz la) (hzb : Nz lb) :
    Calls Try.prog 83 #[.slice A n ca, .slice B m cb] w (RetDv (val la) (val lb) w) := by
  by_cases h1 : m = 1
  · subst h1
    exact divided_one A B n ca cb la lb w hn hla hlb hA hB hda hdb hzb
  · rcases Nat.lt_or_ge (val la) (val lb) with h2 | h2
    · exact divided_less A B n m ca cb la lb w hn hc (by omega) hla hlb hA hB hda hdb hza hzb h2
    · have hmn := len_le_of_val hda hzb h2
      exact divided_long A B n m (n + 1 - m) ca cb la lb w hn (by omega) (by omega) hla hlb hA hB hda hdb hza hzb h2

end Go.Proofs.Ytfhmhkbjcccejaa

namespace Go.Proofs.Ytfhmhkbjcccejaa
open Go.RowKit

/-- Two integers are returned. -/
def RetII (z z' : Int) (w : World) (e : Ending) (w' : World) : Prop :=
  ∃ s neg A n c s' neg' A' n' c', e = .returned (.tuple #[.agg #[.int .i64 s, .bool neg, .slice A n c], .agg #[.int .i64 s', .bool neg', .slice A' n' c']]) ∧ RI w' s neg A n c z ∧ RI w' s' neg' A' n' c' z' ∧ Below w.heap.size w w'

theorem RI.drn {w w' : World} {s : Int} {neg : Bool} {A : Option Addr} {n c : Nat} {z : Int} (h : RI w s neg A n c z) (hd : Drn w w') : RI w' s neg A n c z := by obtain ⟨q, rfl⟩ := hd; exact h

/-- The results are laid into their boxes. -/
theorem retII_box {s z s' z' : Int} {neg neg' : Bool} {A A' : Option Addr} {n c n' c' g g' : Nat} {w w1 wf : World} (h : RI w1 s neg A n c z) (h' : RI w1 s' neg' A' n' c' z') (hx : Bx w1 g 36) (hx' : Bx w1 g' 36) (hB : Below w.heap.size w w1) (hg : w.heap.size ≤ g) (hg' : w.heap.size ≤ g')
    (hw : Drn ((((((w1.setCell ⟨g, 0, none⟩ (.int .i64 s)).setCell ⟨g, 1, none⟩ (.bool neg)).setCell ⟨g, 2, none⟩ (.slice A n c)).setCell ⟨g', 0, none⟩ (.int .i64 s')).setCell ⟨g', 1, none⟩ (.bool neg')).setCell ⟨g', 2, none⟩ (.slice A' n' c')) wf) :
    RetII z z' w (.returned (.tuple #[.agg #[.int .i64 s, .bool neg, .slice A n c], .agg #[.int .i64 s', .bool neg', .slice A' n' c']])) wf := by
  have k1 : ∀ {t b B m d x}, RI w1 t b B m d x → RI wf t b B m d x := fun k =>
    ((((((k.set hx (by decide) _ _).set (hx.set _ _ _) (by decide) _ _).set ((hx.set _ _ _).set _ _ _) (by decide) _ _).set (((hx'.set _ _ _).set _ _ _).set _ _ _) (by decide) _ _).set ((((hx'.set _ _ _).set _ _ _).set _ _ _).set _ _ _) (by decide) _ _).set (((((hx'.set _ _ _).set _ _ _).set _ _ _).set _ _ _).set _ _ _) (by decide) _ _).drn hw
  exact ⟨s, neg, A, n, c, s', neg', A', n', c', rfl, k1 h, k1 h', ((((((hB.setCell hg _).setCell hg _).setCell hg _).setCell hg' _).setCell hg' _).setCell hg' _).trans (hw.below _)⟩

/-- The boxes of two integers and of two results. -/
theorem boxesII (w : World) (p q r p' q' r' : Value) : ∃ X, (((w.alloc (.cells #[p, q, r] 36)).alloc (.cells #[p', q', r'] 36)).alloc (.cells #[.int .i64 0, .bool false, .slice none 0 0] 36)).alloc (.cells #[.int .i64 0, .bool false, .slice none 0 0] 36) = X ∧
    Below w.heap.size w X ∧ X.heap.size = w.heap.size + 4 ∧ B3 w.heap.size p q r X ∧ B3 (w.heap.size + 1) p' q' r' X ∧ W3 (w.heap.size + 1 + 1) X ∧ W3 (w.heap.size + 1 + 1 + 1) X :=
  ⟨_, rfl, ((((Below.refl _ _).alloc (Nat.le_refl _) _).alloc (by simp) _).alloc (by simp; omega) _).alloc (by simp; omega) _, by simp, by simp [B3, go_sem], by simp [B3, go_sem], (W3.new _ _ _ _ (by simp)).keep (below_alloc _ _), W3.new _ _ _ _ (by simp)⟩

end Go.Proofs.Ytfhmhkbjcccejaa
