/- The branches of a choice, by the program. -/
import Derived.Test.YtmfnpipmbpnfbaaGreatDoorF26
import Derived.Test.YtmfnpipmbpnfbaaGreatDoorF27
import Derived.Test.YtmfnpipmbpnfbaaGreatDoorF28
import Derived.Test.YtmfnpipmbpnfbaaGreatDoorF25
import Derived.Test.YtmfnpipmbpnfbaaGreatDoorF21
import Derived.Test.YtmfnpipmbpnfbaaGreatDoorF23

set_option maxRecDepth 100000
set_option maxHeartbeats 40000000
namespace Go.Proofs.YtmfnpipmbpnfbaaGreatDoor
open Go.RowKit
theorem one_any (w : World) : Calls Tryz.prog 67 #[] w fun e w' => e = .returned (.agg #[.int .i64 1, .int .i64 1]) ∧ Below w.heap.size w w' := by
  go_enter Tryz.func67, Tryz.ntmps67
  go_wp2_with fail
  exact bodyPost_ret (v := .agg #[.int .i64 1, .int .i64 1]) (by simp [results, Tryz.results67, go_sem, *]) rfl ⟨rfl, by repeat (first | exact below_alloc _ _ | refine Below.setCell ?_ (Nat.le_refl _) _)⟩
theorem areB_short (A : Option Addr) (n c ns : Nat) (w : World) (_hn : n ≤ 1000000) (b1 : decide ((n : Int) < 1) = true) :
    Calls Tryz.prog 94 #[.slice A n c, .int .i64 (ns : Int)] w fun e w' => e = .returned (.bool false) ∧ Below w.heap.size w w' := by
  go_enter Tryz.func94, Tryz.ntmps94
  go_wp2_with fail
  go_ret
  exact ⟨rfl, Below.refl _ _⟩
theorem areB_long (A : Option Addr) (n c ns : Nat) (w : World) (_hn : n ≤ 1000000) (b1 : decide ((n : Int) < 1) = false) (b2 : decide ((8 : Int) < (n : Int)) = true) :
    Calls Tryz.prog 94 #[.slice A n c, .int .i64 (ns : Int)] w fun e w' => e = .returned (.bool false) ∧ Below w.heap.size w w' := by
  go_enter Tryz.func94, Tryz.ntmps94
  go_wp2_with fail
  go_ret
  exact ⟨rfl, Below.refl _ _⟩
def preF (f : Nat → Int) (k : Nat) : Nat → Int := fun i => if i < k then f i else 0
theorem Rn.step {w : World} {g n k : Nat} {t l : Nat → Int} (h : Rn w g n (preF t k) (preF l k)) (hk : k < n) :
    Rn ((w.setCell ⟨g, k * 2, none⟩ (.int .i64 (t k))).setCell ⟨g, k * 2 + 1, none⟩ (.int .i64 (l k))) g n (preF t (k + 1)) (preF l (k + 1)) := by
  have h2 := h.put hk (t k) (l k)
  unfold Rn at h2 ⊢
  rw [h2]
  congr 3
  refine cellsL_congr (fun i _ => ?_) (fun i _ => ?_) <;>
  · unfold preF
    by_cases e : i = k
    · subst e
      rw [if_pos rfl, if_pos (by omega)]
    · rw [if_neg e]
      by_cases h1 : i < k
      · rw [if_pos h1, if_pos (by omega)]
      · rw [if_neg h1, if_neg (by omega)]
theorem out_one {z : Rat} {p q r : Int} (h : outT z = (p, q, r)) : (r = 0 ∧ decide (z = 1) = ((p == 1) && (q == 1))) ∨ (z ≠ 1 ∧ r = 3) := by
  unfold outT at h
  by_cases f : Fits z
  · rw [if_pos f] at h
    simp only [Prod.mk.injEq] at h
    obtain ⟨rfl, rfl, rfl⟩ := h
    refine Or.inl ⟨rfl, ?_⟩
    rw [Bool.eq_iff_iff]
    simp only [decide_eq_true_eq, Bool.and_eq_true, beq_iff_eq]
    constructor
    · rintro rfl
      exact ⟨rfl, rfl⟩
    · rintro ⟨h1, h2⟩
      exact Rat.ext h1 (by have h3 : z.den = 1 := by omega
                           exact h3)
  · rw [if_neg f] at h
    simp only [Prod.mk.injEq] at h
    obtain ⟨rfl, rfl, rfl⟩ := h
    exact Or.inr ⟨fun e => f (by rw [e]; decide), rfl⟩
def Bbx (w : World) (g : Nat) (p q r : Int) : Prop := w.cell? ⟨g, 0, none⟩ = some (.int .i64 p) ∧ w.cell? ⟨g, 1, none⟩ = some (.int .i64 q) ∧ w.cell? ⟨g, 2, none⟩ = some (.int .i64 r) ∧ g < w.heap.size
theorem Bbx.keep {w w' : World} {g : Nat} {p q r : Int} (h : Bbx w g p q r) (hb : Below w.heap.size w w') : Bbx w' g p q r :=
  ⟨(hb.cell (p := ⟨g, 0, none⟩) h.2.2.2).trans h.1, (hb.cell (p := ⟨g, 1, none⟩) h.2.2.2).trans h.2.1, (hb.cell (p := ⟨g, 2, none⟩) h.2.2.2).trans h.2.2.1, Nat.lt_of_lt_of_le h.2.2.2 hb.size⟩
theorem areB_main (A : Option Addr) (n c ns : Nat) (tw ct cl : Nat → Int) (w : World) (hn1 : 1 ≤ n) (hn8 : n ≤ 8) (_hns : ns ≤ 1000000) (hA : Lbr w A n tw ct cl)
    (HD : Hid (∀ wx A1 c1 A2 c2, (∀ i, i < n → brB ns tw ct cl i = true) → n ≤ c1 → n ≤ c2 → Lnum wx A1 n ct cl → Lnum wx A2 n (fun _ => 1) (fun _ => 1) → Calls Tryz.prog 126 #[.slice A1 n c1, .slice A2 n c2] wx fun e w' => e = .returned (val3 (outT (chSum ct cl n))) ∧ Below wx.heap.size wx w')) :
    Calls Tryz.prog 94 #[.slice A n c, .int .i64 (ns : Int)] w fun e w' => e = .returned (.bool (bsB ns n tw ct cl)) ∧ Below w.heap.size w w' := by
  have HA := Lib.hid hA
  have b1 : decide ((n : Int) < 1) = false := by simp; omega
  have b2 : decide ((8 : Int) < (n : Int)) = false := by simp; omega
  have hmk := make_nums n (by omega)
  clear hA
  go_enter Tryz.func94, Tryz.ntmps94
  go_upto_region 5 with fail
  generalize hX : w.alloc _ = X
  have HX : Hid (Below w.heap.size w X) := by rw [← hX]; exact below_alloc _ _
  have HR : Hid (Rn X w.heap.size n (preF ct 0) (preF cl 0)) := by
    rw [← hX]
    have := Rn.new w n
    unfold Rn at this ⊢
    rw [this]
    congr 3
  clear hX hmk
  go_wp2_with fail
  go_loopw [5, 24] (fun bf i wr => ∃ k : Nat, Hid (k ≤ n) ∧ i = .int .i64 (k : Int) ∧ bf = .int .i64 (bef tw k) ∧ Hid (∀ i, i < k → brB ns tw ct cl i = true) ∧ Hid (Rn wr w.heap.size n (preF ct k) (preF cl k)) ∧ Hid (Below w.heap.size w wr)) (fun _ i _ => n - (intOf i).toNat)
  case atStart => exact ⟨0, Nat.zero_le _, rfl, rfl, Lib.hid (fun i hi => absurd hi (by omega)), HR, HX⟩
  case round =>
    obtain ⟨k, hk, rfl, rfl, hv, hR, hB⟩ := hrel
    by_cases hlt : k < n
    · obtain ⟨b, off, rfl, hb, hcells⟩ := HA.out.keep hB.out (by omega)
      obtain ⟨hc0, hc1, hc2⟩ := hcells k hlt
      dsimp only at hc0 hc1 hc2
      have hlt' : (k : Int) < (n : Int) := by omega
      have HV : Hid (brB ns tw ct cl k = (!(decide (tw k ≤ bef tw k)) && !(decide ((ns : Int) ≤ tw k)) && vld (ct k) (cl k) && !(decide (ct k ≤ 0)))) := brB_eq hv.out
      have HN : Hid (bef tw (k + 1) = tw k) := by
        show bef tw (k + 1) = tw k
        unfold bef
        rw [if_neg (by omega)]
        rfl
      clear hcells
      generalize htk : tw k = tk at hc0 HV HN
      generalize hbk : bef tw k = bk at HV
      generalize hck : ct k = ck at hc1 HV
      generalize hlk : cl k = lk at hc2 HV
      have HTK := Lib.hid htk
      have HCK := Lib.hid hck
      have HLK := Lib.hid hlk
      clear htk hbk hck hlk
      go_upto_region 8 with fail
      generalize hY : wr.alloc _ = Y
      have hYr : Below wr.heap.size wr Y := by subst hY; exact below_alloc _ _
      have BY0 : Bbx Y wr.heap.size tk ck lk := by subst hY; simp [Bbx, go_sem]
      have BY := Lib.hid BY0
      clear BY0
      have HY := Lib.hid (hB.out.trans (hYr.mono hB.out.size))
      have HRY := Lib.hid (hR.out.keep hYr)
      clear hY hYr hc0 hc1 hc2 hb hR hB
      obtain ⟨j0, j1, j2, j3⟩ := BY.out
      cases g1 : decide (tk ≤ bk) with
      | true =>
        have HE : Hid (bsB ns n tw ct cl = false) := bsB_bad hlt (by rw [HV.out, g1]; rfl)
        go_wp2_with fail
        go_ret
        exact ⟨by rw [HE.out]; rfl, HY.out⟩
      | false =>
      cases g2 : decide ((ns : Int) ≤ tk) with
      | true =>
        have HE : Hid (bsB ns n tw ct cl = false) := bsB_bad hlt (by rw [HV.out, g2]; simp)
        go_wp2_with fail
        go_ret
        exact ⟨by rw [HE.out]; rfl, HY.out⟩
      | false =>
      go_wp2_with fail
      (with_reducible refine (valid_any ck lk _).mono ?_)
      rintro e w1 ⟨rfl, hB1⟩
      have HY1 := Lib.hid (HY.out.trans (hB1.mono HY.out.size))
      have BY1 := Lib.hid (BY.out.keep hB1)
      have HR1 := Lib.hid (HRY.out.keep hB1)
      clear j0 j1 j2 j3 hB1 HY HRY BY
      obtain ⟨j0, j1, j2, j3⟩ := BY1.out
      cases hv1 : vld ck lk with
      | false =>
        have HE : Hid (bsB ns n tw ct cl = false) := bsB_bad hlt (by rw [HV.out, hv1]; simp)
        go_wp2_with fail
        go_ret
        exact ⟨by rw [HE.out]; rfl, HY1.out⟩
      | true =>
      cases g4 : decide (ck ≤ 0) with
      | true =>
        have HE : Hid (bsB ns n tw ct cl = false) := bsB_bad hlt (by rw [HV.out, g4]; simp)
        go_wp2_with fail
        go_ret
        exact ⟨by rw [HE.out]; rfl, HY1.out⟩
      | false =>
      have HVV : Hid (∀ i, i < k + 1 → brB ns tw ct cl i = true) := fun i hi => by
        by_cases e : i = k
        · rw [e, HV.out, g1, g2, hv1, g4]; rfl
        · exact hv.out i (by omega)
      have c0 := HR1.out.cellAt (cellsL_at0 (preF ct k) (preF cl k) hlt)
      have c1 := HR1.out.cellAt (cellsL_at1 (preF ct k) (preF cl k) hlt)
      have f0 := HR1.out.frozenAt (k * 2)
      have f1 := HR1.out.frozenAt (k * 2 + 1)
      have HR2 : Hid (Rn ((w1.setCell ⟨w.heap.size, k * 2, none⟩ (.int .i64 ck)).setCell ⟨w.heap.size, k * 2 + 1, none⟩ (.int .i64 lk)) w.heap.size n (preF ct (k + 1)) (preF cl (k + 1))) := by
        have := HR1.out.step hlt
        rw [HCK.out, HLK.out] at this
        exact this
      have HY2 : Hid (Below w.heap.size w ((w1.setCell ⟨w.heap.size, k * 2, none⟩ (.int .i64 ck)).setCell ⟨w.heap.size, k * 2 + 1, none⟩ (.int .i64 lk))) := (HY1.out.setCell (Nat.le_refl _) _).setCell (Nat.le_refl _) _
      clear hv HV hv1 HCK HLK
      go_wp2_with fail
      exact ⟨⟨k + 1, Lib.hid (by omega), by rw [show ((k + 1 : Nat) : Int) = (k : Int) + 1 from by omega], by rw [HN.out], HVV, HR2, HY2⟩, by simp [intOf]; omega⟩
    · have hke : k = n := by have := hk.out; omega
      have hlt' : ¬ (k : Int) < (n : Int) := by omega
      have HE : Hid (bsB ns n tw ct cl = decide (chSum ct cl n = 1)) := bsB_end hn1 hn8 (by rw [← hke]; exact hv.out)
      have HF : Hid (Lnum wr (some ⟨w.heap.size, 0, none⟩) n ct cl) := by
        have e : cellsL n (preF ct k) (preF cl k) = cellsL n ct cl := cellsL_congr (fun i hi => if_pos (by omega)) (fun i hi => if_pos (by omega))
        have h := hR.out
        unfold Rn at h
        rw [e] at h
        exact Rn.num h
      have HVA : Hid (∀ i, i < n → brB ns tw ct cl i = true) := by rw [← hke]; exact hv.out
      clear hke hR hk hv
      go_wp2_with fail
      (with_reducible refine (one_any _).mono ?_)
      rintro e w1 ⟨rfl, hB1⟩
      have HB1 := Lib.hid (hB.out.trans (hB1.mono hB.out.size))
      have HF1 := Lib.hid (HF.out.keep hB1)
      clear hB1 HF hB
      go_wp2_with fail
      (with_reducible refine (repeat_any w1.heap.size 1 n 1 1 _ hn1 hn8 ?_ ?_ ?_).mono ?_)
      · simp [go_sem]
      · simp [go_sem]
      · simp
      rintro e w2 ⟨A2, c2, rfl, hc2, hL2, hB2⟩
      have HB2 := Lib.hid ((HB1.out.alloc HB1.out.size (.cells #[.int .i64 1, .int .i64 1] 62)).trans (hB2.mono (HB1.out.alloc HB1.out.size (.cells #[.int .i64 1, .int .i64 1] 62)).size))
      have HF2 := Lib.hid ((HF1.out.keep (below_alloc _ (.cells #[.int .i64 1, .int .i64 1] 62))).keep hB2)
      have HL2 := Lib.hid hL2
      have HC2 := Lib.hid hc2
      clear hB2 hL2 hc2 HB1 HF1
      go_wp2_with fail
      (with_reducible refine (HD.out w2 _ n A2 c2 HVA.out (Nat.le_refl _) HC2.out HF2.out HL2.out).mono ?_)
      rintro e w3 ⟨rfl, hB3⟩
      have HB3 := Lib.hid (HB2.out.trans (hB3.mono HB2.out.size))
      obtain ⟨p, q, r, hz⟩ : ∃ p q r, outT (chSum ct cl n) = (p, q, r) := ⟨_, _, _, rfl⟩
      have HZ := Lib.hid (out_one hz)
      rw [hz]
      unfold val3
      clear hB3 HB2 HF2 HL2 HC2 HD hz
      rcases HZ.out with ⟨rfl, hz1⟩ | ⟨hz1, rfl⟩
      · have HE2 : Hid (bsB ns n tw ct cl = ((p == 1) && (q == 1))) := HE.out.trans hz1
        have H1 : Hid (∀ wx, Calls Tryz.prog 67 #[] wx (RetV (.val (.agg #[.int .i64 1, .int .i64 1])) wx)) := fun wx => (one_any wx).mono fun e w' h => ⟨_, h.1, rfl, h.2⟩
        clear HE HZ hz1
        go_upto_region 14 with fail
        generalize hV : w3.alloc _ = V
        have HBV : Hid (Below w.heap.size w V) := by rw [← hV]; exact HB3.out.alloc HB3.out.size _
        have HBX0 : B2n w3.heap.size (.int .i64 p) (.int .i64 q) V := by rw [← hV]; simp [B2n, go_sem]
        have HBX := Lib.hid HBX0
        clear hV HB3 HBX0
        generalize w3.heap.size = gb at *
        refine wp_region_flow 8 [69, 70, 71, 72, 73, 74, 75, 4] (fun i => if i = 7 then 4 else 69 + i) (Below V.heap.size V) (Spl [.val (.int .i64 0), .val (.bool true), .val (.bool true), .val (.agg #[.int .i64 p, .int .i64 q]), .val (.agg #[.int .i64 1, .int .i64 1]), .val (.bool ((p == 1) && (q == 1))), .val (.bool ((p == 1) && (q == 1))), .val (.bool ((p == 1) && (q == 1)))]) (by kernel_rfl) (by kernel_rfl) (by kernel_rfl) (by kernel_rfl) (fun i j hi hj h => by have h : (if i = 7 then 4 else 69 + i) = (if j = 7 then 4 else 69 + j) := h; split at h <;> split at h <;> omega) (by decide) (fun wx wy (h : Below V.heap.size V wx) hb => h.trans (hb.mono h.size)) Spl.keep ?_ ?_ ?_
        · exact Below.drew (Below.refl _ _)
        · intro i v wx o T' K ho hF hdep hin hout hK
          have hi : i < 8 := (Array.getElem?_eq_some_iff.1 ho).1
          have HF := Lib.hid hF
          have HD := Lib.hid hdep
          clear hF hdep
          rcases (by omega : i = 0 ∨ i = 1 ∨ i = 2 ∨ i = 3 ∨ i = 4 ∨ i = 5 ∨ i = 6 ∨ i = 7) with rfl | rfl | rfl | rfl | rfl | rfl | rfl | rfl
          · obtain rfl := Option.some.inj ho
            have sl10 : T'[10]? = some (.int .i64 0) := (hout 10 (by decide)).trans rfl
            clear hin hout ho hi
            go_simp
            exact hK _ _ (Below.refl _ _) rfl
          · obtain rfl := Option.some.inj ho
            have q69 := hin 69 (by decide)
            have e0 : v 69 = (.int .i64 0) := HD.out ⟨0, .data⟩ (by simp) rfl
            rw [e0] at q69
            clear hin hout ho hi
            go_simp
            exact hK _ _ (Below.refl _ _) rfl
          · obtain rfl := Option.some.inj ho
            have q70 := hin 70 (by decide)
            have e0 : v 70 = (.bool true) := HD.out ⟨1, .data⟩ (by simp) rfl
            rw [e0] at q70
            clear hin hout ho hi
            go_simp
            exact hK _ _ (Below.refl _ _) rfl
          · obtain rfl := Option.some.inj ho
            have q71 := hin 71 (by decide)
            have sl9 : T'[9]? = some (.pointer (some ⟨gb, 0, none⟩)) := (hout 9 (by decide)).trans rfl
            have eg : v 71 = (.bool true) := HD.out ⟨2, .guard⟩ (by simp) rfl
            rw [eg] at q71
            obtain ⟨j0, j1, -⟩ := HBX.out.keep HF.out
            have hP := (rfl : (Value.agg #[.int .i64 p, .int .i64 q]) = .agg #[.int .i64 p, .int .i64 q])
            clear hin hout ho hi
            go_simp
            exact hK _ _ (Below.refl _ _) hP
          · obtain rfl := Option.some.inj ho
            have q71 := hin 71 (by decide)
            have eg : v 71 = (.bool true) := HD.out ⟨2, .guard⟩ (by simp) rfl
            rw [eg] at q71
            clear hin hout ho hi
            go_simp
            (with_reducible refine (H1.out _).mono ?_)
            rintro e w2 ⟨u, rfl, hu, hB⟩
            exact hK _ _ hB hu
          · obtain rfl := Option.some.inj ho
            have q71 := hin 71 (by decide)
            have q72 := hin 72 (by decide)
            have q73 := hin 73 (by decide)
            have eg : v 71 = (.bool true) := HD.out ⟨2, .guard⟩ (by simp) rfl
            rw [eg] at q71
            have e0 : v 72 = (.agg #[.int .i64 p, .int .i64 q]) := HD.out ⟨3, .data⟩ (by simp) rfl
            rw [e0] at q72
            have e1 : v 73 = (.agg #[.int .i64 1, .int .i64 1]) := HD.out ⟨4, .data⟩ (by simp) rfl
            rw [e1] at q73
            clear hin hout ho hi
            go_simp
            by_cases hp : p = 1
            · by_cases hq : q = 1
              · rw [if_pos hp, if_pos hq]
                have HP := Lib.hid hp
                have HQ := Lib.hid hq
                clear hp hq
                go_simp
                exact hK _ _ (Below.refl _ _) (show Value.bool true = Value.bool ((p == 1) && (q == 1)) from by rw [HP.out, HQ.out]; rfl)
              · rw [if_pos hp, if_neg hq]
                have HP := Lib.hid hp
                have HQ := Lib.hid hq
                clear hp hq
                go_simp
                exact hK _ _ (Below.refl _ _) (show Value.bool false = Value.bool ((p == 1) && (q == 1)) from by rw [beq_eq_false_iff_ne.2 HQ.out, Bool.and_false])
            · rw [if_neg hp]
              have HP := Lib.hid hp
              clear hp
              go_simp
              exact hK _ _ (Below.refl _ _) (show Value.bool false = Value.bool ((p == 1) && (q == 1)) from by rw [beq_eq_false_iff_ne.2 HP.out, Bool.false_and])
          · obtain rfl := Option.some.inj ho
            have q71 := hin 71 (by decide)
            have q74 := hin 74 (by decide)
            have e0 : v 71 = (.bool true) := HD.out ⟨2, .data⟩ (by simp) rfl
            rw [e0] at q71
            have e1 : v 74 = (.bool ((p == 1) && (q == 1))) := HD.out ⟨5, .data⟩ (by simp) rfl
            rw [e1] at q74
            clear hin hout ho hi
            go_simp
            exact hK _ _ (Below.refl _ _) rfl
          · obtain rfl := Option.some.inj ho
            have q75 := hin 75 (by decide)
            have e0 : v 75 = (.bool ((p == 1) && (q == 1))) := HD.out ⟨6, .data⟩ (by simp) rfl
            rw [e0] at q75
            clear hin hout ho hi
            go_simp
            exact hK _ _ (Below.refl _ _) rfl
        · intro v wx hF hall
          have HX4 := Lib.hid hF
          have e4 : v 4 = .bool ((p == 1) && (q == 1)) := hall 7 (by omega)
          clear hall hF
          simp only [over, List.setIfInBounds_toArray, List.set_cons_zero, List.set_cons_succ]
          rw [e4]
          generalize v 69 = v69
          generalize v 70 = v70
          generalize v 71 = v71
          generalize v 72 = v72
          generalize v 73 = v73
          generalize v 74 = v74
          generalize v 75 = v75
          clear e4
          generalize hbb : ((p == 1) && (q == 1)) = bb at *
          go_wp2_with fail
          go_ret
          exact ⟨by rw [HE2.out]; rfl, HBV.out.trans (HX4.out.mono HBV.out.size)⟩
      · have HE2 : Hid (bsB ns n tw ct cl = false) := by rw [HE.out]; exact decide_eq_false hz1
        clear HE HZ hz1
        go_upto_region 14 with fail
        generalize hV : w3.alloc _ = V
        have HBV : Hid (Below w.heap.size w V) := by rw [← hV]; exact HB3.out.alloc HB3.out.size _
        clear hV HB3
        go_quiet (fail)
        go_wp2_with fail
        go_ret
        exact ⟨by rw [HE2.out]; rfl, HBV.out.trans (Drn.below ⟨_, rfl⟩ _)⟩
theorem areB_any (A : Option Addr) (n c ns : Nat) (tw ct cl : Nat → Int) (w : World) (hn : n ≤ 1000000) (hns : ns ≤ 1000000) (hA : Lbr w A n tw ct cl) :
    Calls Tryz.prog 94 #[.slice A n c, .int .i64 (ns : Int)] w fun e w' => e = .returned (.bool (bsB ns n tw ct cl)) ∧ Below w.heap.size w w' := by
  cases t1 : decide ((n : Int) < 1) with
  | true => rw [bsB_short (by have : (n : Int) < 1 := of_decide_eq_true t1
                              omega)]; exact areB_short A n c ns w hn t1
  | false =>
  cases t2 : decide ((8 : Int) < (n : Int)) with
  | true => rw [bsB_long (by have : (8 : Int) < (n : Int) := of_decide_eq_true t2
                             omega)]; exact areB_long A n c ns w hn t1 t2
  | false =>
  have h1 : 1 ≤ n := by
    have : ¬ (n : Int) < 1 := of_decide_eq_false t1
    omega
  have h8 : n ≤ 8 := by
    have : ¬ (8 : Int) < (n : Int) := of_decide_eq_false t2
    omega
  refine areB_main A n c ns tw ct cl w h1 h8 hns hA (Lib.hid fun wx A1 c1 A2 c2 hv hc1 hc2 hL1 hL2 => ?_)
  have hd := ndot_any A1 A2 n n c1 c2 ct cl (fun _ => 1) (fun _ => 1) wx (by omega) (by omega) hc1 hc2 hL1 hL2
  have e : dotT n n ct cl (fun _ => 1) (fun _ => 1) = outT (chSum ct cl n) := by
    unfold dotT
    rw [allB_true (fun i hi => (brB_open (hv i hi)).2.2.1), allB_true (fun i _ => (by decide +kernel : vld 1 1 = true)), if_pos (show (true && true) = true from rfl), if_pos rfl]
    congr 1
    refine sumQ_congr fun i _ => ?_
    show fr (ct i) (cl i) * fr 1 1 = fr (ct i) (cl i)
    rw [show fr 1 1 = 1 from by decide +kernel, Rat.mul_one]
  rw [e] at hd
  exact hd
end Go.Proofs.YtmfnpipmbpnfbaaGreatDoor
namespace Go.Proofs.YtmfnpipmbpnfbaaGreatDoor
open Go Go.RowKit
section
variable {P : Program} {ops : Array Oper} {Q : Exit → Act → World → Prop}
theorem wp_region_flow_storev {id : Nat} {T : Array Value} {df : List Deferred} {w : World} (n : Nat) (S : List Nat) (d : Nat → Nat) (Fix : World → Prop) (End : (Nat → Value) → World → Prop) (G : Nat → Value → World → Prop)
    (hm : P.follows .mixedOrders = true) (hf : forward .any ops = true) (hS : S.all (fun j => decide (j < T.size)) = true) (hn : ops.size = n + 1)
    (hlast : ((List.range n).all fun i => ((ops[n]?).map fun o => o.after.any fun e => Region.binds .any e && (e.on == i)).getD false) = true)
    (hd : ∀ i j, i < n → j < n → d i = d j → i = j) (hdS : ∀ i, i < n → d i ∈ S)
    (hkeep : ∀ wx wy, Fix wx → Below wx.heap.size wx wy → Fix wy) (hG : ∀ i u wx wy, Below wx.heap.size wx wy → G i u wx → G i u wy)
    (h0 : Fix w.drew)
    (hstep : ∀ (i : Nat) (v : Nat → Value) (wx : World) (o : Oper) (T' : Array Value) (K : Act → World → Prop), i < n → ops[i]? = some o → Fix wx → (∀ e ∈ o.after, Region.binds .any e = true → G e.on (v (d e.on)) wx) →
      (∀ j, j ∈ S → T'[j]? = some (v j)) → (∀ j, j ∉ S → T'[j]? = T[j]?) →
      (∀ x w', Below wx.heap.size wx w' → G i x w' → K ⟨T'.setIfInBounds (d i) x, df⟩ w') →
      if Region.wanted o (yielded ops T') = true then Oper.wp P o ⟨T', df⟩ wx K Q else K (Act.put ⟨T', df⟩ o.dst undef) wx)
    (hstore : ∀ (v : Nat → Value) (wx : World) (o : Oper) (T' : Array Value) (K : Act → World → Prop), ops[n]? = some o → Fix wx → (∀ i, i < n → G i (v (d i)) wx) →
      (∀ j, j ∈ S → T'[j]? = some (v j)) → (∀ j, j ∉ S → T'[j]? = T[j]?) → (∀ w', End v w' → K ⟨T', df⟩ w') →
      if Region.wanted o (yielded ops T') = true then Oper.wp P o ⟨T', df⟩ wx K Q else K (Act.put ⟨T', df⟩ o.dst undef) wx)
    (hend : ∀ (v : Nat → Value) (wx : World), End v wx → Q .normal ⟨over T S v, df⟩ wx) :
    (Code.region id ops true).wp P Q ⟨T, df⟩ w := by
  refine wp_region_inv3 S (fun b v wx => (b n = false → Fix wx ∧ ∀ i, i < n → b i = true → G i (v (d i)) wx) ∧ (b n = true → (∀ i, i < n → b i = true) ∧ End v wx)) hm hf hS ⟨fun _ => ⟨h0, fun _ _ h => Bool.noConfusion h⟩, fun h => Bool.noConfusion h⟩ ?_ ?_
  · rintro i b v wx o T' K ho hdep hb ⟨h1, h2⟩ hin hout hK hK'
    have hi : i < n + 1 := by rw [← hn]; exact (Array.getElem?_eq_some_iff.1 ho).1
    by_cases hl : i = n
    · subst hl
      obtain ⟨hF, hall⟩ := h1 hb
      have hbi : ∀ j, j < i → b j = true := fun j hj => by
        have h := List.all_eq_true.1 hlast j (List.mem_range.2 hj)
        simp only [ho, Option.map_some, Option.getD_some] at h
        obtain ⟨k, hk, hp⟩ := Array.any_eq_true.1 h
        have he : o.after[k] ∈ o.after := Array.getElem_mem hk
        generalize o.after[k] = e at hp he
        have hp' := Bool.and_eq_true_iff.1 hp
        have e1 := hdep e he hp'.1
        rw [beq_iff_eq.1 hp'.2] at e1
        exact e1
      refine hstore v wx o T' K ho hF (fun j hj => hall j hj (hbi j hj)) hin hout (fun w' hE => hK' _ ⟨fun h => ?_, fun _ => ⟨fun j hj => ?_, hE⟩⟩)
      · unfold updB at h
        rw [if_pos rfl] at h
        exact Bool.noConfusion h
      · unfold updB
        rw [if_neg (by omega)]
        exact hbi j hj
    · have hi' : i < n := by omega
      have hbn : b n = false := by
        cases hbn : b n with
        | false => rfl
        | true => exact absurd ((h2 hbn).1 i hi') (by rw [hb]; decide)
      obtain ⟨hF, hall⟩ := h1 hbn
      have hon : ∀ e ∈ o.after, Region.binds .any e = true → e.on < n := fun e he hbd => by
        have h := List.all_eq_true.1 hf i (List.mem_range.2 (by omega))
        simp only [ho, Option.map_some, Option.getD_some] at h
        have h2 := (Array.all_eq_true_iff_forall_mem.1 h) e he
        have : e.on < i := by simpa [hbd] using h2
        omega
      refine hstep i v wx o T' K hi' ho hF (fun e he hbd => hall _ (hon e he hbd) (hdep e he hbd)) hin hout (fun x w' hB hx => hK _ _ _ (hdS i hi') ⟨fun _ => ⟨hkeep _ _ hF hB, fun j hj hbj => ?_⟩, fun h => ?_⟩)
      · by_cases e : j = i
        · subst e
          have e2 : updV v (d j) x (d j) = x := by unfold updV; rw [if_pos rfl]
          rw [e2]
          exact hx
        · rw [updV_other hd hi' hj e]
          unfold updB at hbj
          rw [if_neg e] at hbj
          exact hG _ _ _ _ hB (hall j hj hbj)
      · unfold updB at h
        rw [if_neg (Ne.symm hl)] at h
        rw [hbn] at h
        exact Bool.noConfusion h
  · rintro b v wx hb ⟨-, h2⟩
    exact hend v wx (h2 (hb n (by omega))).2
end
end Go.Proofs.YtmfnpipmbpnfbaaGreatDoor
namespace Go.Proofs.YtmfnpipmbpnfbaaGreatDoor
open Go.RowKit
theorem rv_whole (n : Int) (x : Rat) (w : World) (hx : x.num = n ∧ (x.den : Int) = 1) (h1 : -9223372036854775808 ≤ n) (h2 : n ≤ 9223372036854775807) : Calls Tryz.prog 96 #[.int .i64 n] w (RetV (.rat x) w) := by
  have HO1 : Hid (∀ wx, Calls Tryz.prog 70 #[.int .i64 n] wx (RetV (.int n) wx)) := fun wx => iv_of n wx h1 h2
  have HO2 : Hid (∀ wx, Calls Tryz.prog 70 #[.int .i64 1] wx (RetV (.int 1) wx)) := fun wx => iv_of 1 wx (by decide) (by decide)
  have HE := Lib.hid hx
  clear h1 h2 hx
  go_enter Tryz.func96, Tryz.ntmps96
  go_upto_region 1 with fail
  generalize hX : w.alloc _ = X
  have HX : Hid (Below w.heap.size w X ∧ W6 w.heap.size X) := by
    subst hX
    exact ⟨below_alloc _ _, W6.new _ _ _ _ _ _ _ rfl⟩
  clear hX
  go_wp2_with fail
  (with_reducible refine (HO1.out _).mono ?_)
  rintro e w1 ⟨u, rfl, hu, hB1⟩
  obtain ⟨s1, n1, A1, m1, c1, rfl, hR1⟩ := hu
  have HR1 := Lib.hid hR1
  have HX1 : Hid (Below w.heap.size w w1 ∧ W6 w.heap.size w1) := ⟨HX.out.1.trans (hB1.mono HX.out.1.size), HX.out.2.keep hB1⟩
  clear hR1 hB1 HX
  go_wp2_with fail
  (with_reducible refine (HO2.out _).mono ?_)
  rintro e w2 ⟨u, rfl, hu, hB2⟩
  obtain ⟨s2, n2, A2, m2, c2, rfl, hR2⟩ := hu
  have HR2 := Lib.hid hR2
  have HR1' := Lib.hid (HR1.out.keep hB2)
  have HX2 : Hid (Below w.heap.size w w2 ∧ W6 w.heap.size w2) := ⟨HX1.out.1.trans (hB2.mono HX1.out.1.size), HX1.out.2.keep hB2⟩
  clear hR2 hB2 HX1 HR1
  obtain ⟨⟨o0, o1, o2, o3, o4, o5, p0, p1, p2, p3, p4, p5⟩, ⟨f0, f1, f2, f3, f4, f5⟩, -⟩ := HX2.out.2
  go_wp2_with fail
  have hr1 := HR1'.out
  have hr2 := HR2.out
  rw [← HE.out.1] at hr1
  rw [← HE.out.2] at hr2
  refine bodyPost_ret (v := .agg #[.int .i64 s1, .bool n1, .slice A1 m1 c1, .int .i64 s2, .bool n2, .slice A2 m2 c2]) (by simp [results, Tryz.results96, go_sem, p0, p1, p2, p3, p4, p5]) rfl ?_
  have H : RetRt x.num (x.den : Int) w (.returned (.agg #[.int .i64 s1, .bool n1, .slice A1 m1 c1, .int .i64 s2, .bool n2, .slice A2 m2 c2])) (set6 w2 w.heap.size (.int .i64 s1) (.bool n1) (.slice A1 m1 c1) (.int .i64 s2) (.bool n2) (.slice A2 m2 c2)) := retRt_box0 HX2.out.1 (Nat.le_refl _) hr1 hr2 HX2.out.2.2.2
  obtain ⟨a1, a2, a3, a4, a5, a6, a7, a8, a9, a10, ae, k1, k2, k3⟩ := H
  exact ⟨_, rfl, ⟨a1, a2, a3, a4, a5, a6, a7, a8, a9, a10, by injection ae, k1, k2⟩, k3⟩
def BR (w : World) (g : Nat) (x : Rat) : Prop := ∃ s neg A n c s' neg' A' n' c', B6 g (.int .i64 s) (.bool neg) (.slice A n c) (.int .i64 s') (.bool neg') (.slice A' n' c') w ∧ RI w s neg A n c x.num ∧ RI w s' neg' A' n' c' (x.den : Int)
theorem BR.keep {w w' : World} {g : Nat} {x : Rat} (h : BR w g x) (hb : Below w.heap.size w w') : BR w' g x := by
  obtain ⟨s, neg, A, n, c, s', neg', A', n', c', h1, h2, h3⟩ := h
  exact ⟨s, neg, A, n, c, s', neg', A', n', c', h1.keep hb, h2.keep hb, h3.keep hb⟩
theorem size_set6 (w : World) (g : Nat) (a b c d e f : Value) : w.heap.size ≤ (set6 w g a b c d e f).heap.size := Nat.le_trans (Nat.le_trans (Nat.le_trans (size_set _ _ _ _) (size_set _ _ _ _)) (size_set _ _ _ _)) (Nat.le_trans (Nat.le_trans (size_set _ _ _ _) (size_set _ _ _ _)) (size_set _ _ _ _))
theorem heap_set6 {g k : Nat} (w : World) (hk : g ≠ k) (a b c d e f : Value) : (set6 w k a b c d e f).heap[g]? = w.heap[g]? :=
  (((((Below.heap_setCell _ _ _ _ hk).trans (Below.heap_setCell _ _ _ _ hk)).trans (Below.heap_setCell _ _ _ _ hk)).trans (Below.heap_setCell _ _ _ _ hk)).trans (Below.heap_setCell _ _ _ _ hk)).trans (Below.heap_setCell _ _ _ _ hk)
theorem BR.put {w : World} {g : Nat} {x : Rat} {s s' : Int} {neg neg' : Bool} {A A' : Option Addr} {n c n' c' : Nat} (hW : W6 g w) (h : RI w s neg A n c x.num) (h' : RI w s' neg' A' n' c' (x.den : Int)) : BR (set6 w g (.int .i64 s) (.bool neg) (.slice A n c) (.int .i64 s') (.bool neg') (.slice A' n' c')) g x :=
  ⟨s, neg, A, n, c, s', neg', A', n', c', hW.put _ _ _ _ _ _, h.set_6 hW.2.2 _ _ _ _ _ _, h'.set_6 hW.2.2 _ _ _ _ _ _⟩
theorem W6.put' {g : Nat} {w : World} (h : W6 g w) (a b c d e f : Value) : W6 g (set6 w g a b c d e f) := by
  have hb := h.put a b c d e f
  obtain ⟨-, ⟨f0, f1, f2, f3, f4, f5⟩, hx⟩ := h
  obtain ⟨b0, b1, b2, b3, b4, b5, -⟩ := hb
  refine ⟨⟨a, b, c, d, e, f, b0, b1, b2, b3, b4, b5⟩, ?_, (((((hx.set _ _ _).set _ _ _).set _ _ _).set _ _ _).set _ _ _).set _ _ _⟩
  refine ⟨?_, ?_, ?_, ?_, ?_, ?_⟩ <;> simp [set6, go_sem, f0, f1, f2, f3, f4, f5]
theorem W_lt_Bs {a b : Nat} (h : 32 * a < 30 * b) : W ^ a < Bs ^ b := by
  rw [show W = 2 ^ 32 from rfl, show Bs = 2 ^ 30 from rfl, ← Nat.pow_mul, ← Nat.pow_mul]
  exact Nat.pow_lt_pow_right (by decide) h
theorem Bd.ref {x : Rat} {k : Nat} (hk : k ≤ 900) (h : Bd x (W ^ k) (W ^ k)) : x.num.natAbs < Bs ^ 1000 ∧ x.den < Bs ^ 1000 :=
  ⟨Nat.lt_of_le_of_lt h.1 (@W_lt_Bs k 1000 (by omega)), Nat.lt_of_le_of_lt h.2 (@W_lt_Bs k 1000 (by omega))⟩
theorem rv_to' {t l : Int} (h : vld t l = true) (wx : World) : Calls Tryz.prog 98 #[.agg #[.int .i64 t, .int .i64 l]] wx (RetV (.rat (fr t l)) wx) := by
  obtain ⟨x, rfl, rfl, hx⟩ := vld_rat h
  obtain ⟨h1, h2⟩ := vld_le h
  rw [hx]
  exact rv_to x wx h1 h2
theorem fr_bd {t l : Int} (h : vld t l = true) : (fr t l).num.natAbs < Bs ^ 1000 ∧ (fr t l).den < Bs ^ 1000 := by
  obtain ⟨x, rfl, rfl, hx⟩ := vld_rat h
  obtain ⟨h1, h2⟩ := vld_le h
  rw [hx]
  have e : 1152921504606846976 ≤ W ^ 2 := by rw [W_eq]; decide
  exact Bd.ref (k := 2) (by omega) ⟨Nat.le_trans h1 e, Nat.le_trans h2 e⟩
end Go.Proofs.YtmfnpipmbpnfbaaGreatDoor
