/- Numbers that are valid, of the reference. -/
import Derived.Test.YtjoanclnaeephaaGreatMRd
import Derived.Test.YtjoanclnaeephaaGreatNum1
namespace Go.Proofs.YtjoanclnaeephaaGreat
open Go.RowKit

/-- The box of one number. -/
structure FB2 (w : World) (a b : Value) (wx : World) : Prop where
  below : Below w.heap.size w wx
  ba : B2n w.heap.size a b wx
theorem FB2.keep {w : World} {a b : Value} (wx wy : World) (h : FB2 w a b wx) (hb : Below wx.heap.size wx wy) : FB2 w a b wy :=
  ⟨h.below.trans (hb.mono h.below.size), h.ba.keep hb⟩
theorem FB2.new (w : World) (a b : Value) : FB2 w a b (w.alloc (.cells #[a, b] 23)) :=
  ⟨(Below.refl _ _).alloc (Nat.le_refl _) _, by simp [B2n, go_sem]⟩

set_option maxRecDepth 100000 in
set_option maxHeartbeats 20000000 in
theorem rvalid_bad0 (t l : Int) (w : World) (g0 : decide (l < 1) = true) : Calls Tryz.prog 15 #[.agg #[.int .i64 t, .int .i64 l]] w fun e w' => e = .returned (.bool false) ∧ Below w.heap.size w w' := by
  go_enter Tryz.func15, Tryz.ntmps15
  go_wp2_with fail
  go_ret
  exact ⟨rfl, below_alloc _ _⟩

set_option maxRecDepth 100000 in
set_option maxHeartbeats 20000000 in
theorem rvalid_bad1 (t l : Int) (w : World) (g0 : decide (l < 1) = false) (g1 : decide (1152921504606846976 < l) = true) : Calls Tryz.prog 15 #[.agg #[.int .i64 t, .int .i64 l]] w fun e w' => e = .returned (.bool false) ∧ Below w.heap.size w w' := by
  go_enter Tryz.func15, Tryz.ntmps15
  go_wp2_with fail
  go_ret
  exact ⟨rfl, below_alloc _ _⟩

set_option maxRecDepth 100000 in
set_option maxHeartbeats 20000000 in
theorem rvalid_bad2 (t l : Int) (w : World) (g0 : decide (l < 1) = false) (g1 : decide (1152921504606846976 < l) = false) (g2 : decide (1152921504606846976 < t) = true) : Calls Tryz.prog 15 #[.agg #[.int .i64 t, .int .i64 l]] w fun e w' => e = .returned (.bool false) ∧ Below w.heap.size w w' := by
  go_enter Tryz.func15, Tryz.ntmps15
  go_wp2_with fail
  go_ret
  exact ⟨rfl, below_alloc _ _⟩

set_option maxRecDepth 100000 in
set_option maxHeartbeats 20000000 in
theorem rvalid_bad3 (t l : Int) (w : World) (g0 : decide (l < 1) = false) (g1 : decide (1152921504606846976 < l) = false) (g2 : decide (1152921504606846976 < t) = false) (g3 : decide (t < -1152921504606846976) = true) : Calls Tryz.prog 15 #[.agg #[.int .i64 t, .int .i64 l]] w fun e w' => e = .returned (.bool false) ∧ Below w.heap.size w w' := by
  go_enter Tryz.func15, Tryz.ntmps15
  go_wp2_with fail
  go_ret
  exact ⟨rfl, below_alloc _ _⟩

set_option maxRecDepth 100000 in
set_option maxHeartbeats 20000000 in
theorem rvalid_good (t l : Int) (w : World) (hg : (1 ≤ l ∧ l ≤ 1152921504606846976) ∧ -1152921504606846976 ≤ t ∧ t ≤ 1152921504606846976) (g0 : decide (l < 1) = false) (g1 : decide (1152921504606846976 < l) = false) (g2 : decide (1152921504606846976 < t) = false) (g3 : decide (t < -1152921504606846976) = false) : Calls Tryz.prog 15 #[.agg #[.int .i64 t, .int .i64 l]] w fun e w' => e = .returned (.bool (sgnI ((Nat.gcd t.natAbs l.natAbs : Nat) - 1) == 0)) ∧ Below w.heap.size w w' := by
  have b1 : (1 : Int).natAbs < Bs ^ 3 := by decide
  have e3 : Bs ^ 3 = 1237940039285380274899124224 := by decide
  have bt : t.natAbs < Bs ^ 3 := by omega
  have bl : l.natAbs < Bs ^ 3 := by omega
  have bg : ((Nat.gcd t.natAbs l.natAbs : Nat) : Int).natAbs < Bs ^ 3 := by
    have : Nat.gcd t.natAbs l.natAbs ≤ l.natAbs := Nat.le_of_dvd (by omega) (Nat.gcd_dvd_right _ _)
    rw [Int.natAbs_natCast]
    omega
  have HO1 : Hid (∀ wx, Calls Tryz.prog 34 #[.int .i64 t] wx (RetV (.int t) wx)) := fun wx => iv_of t wx (by omega) (by omega)
  have HO2 : Hid (∀ wx, Calls Tryz.prog 34 #[.int .i64 l] wx (RetV (.int l) wx)) := fun wx => iv_of l wx (by omega) (by omega)
  have HO3 : Hid (∀ wx, Calls Tryz.prog 34 #[.int .i64 1] wx (RetV (.int 1) wx)) := fun wx => iv_of 1 wx (by decide) (by decide)
  have HG : Hid (∀ wx u u', IV wx u t → IV wx u' l → Calls Tryz.prog 33 #[u, u'] wx (RetV (.int (Nat.gcd t.natAbs l.natAbs : Nat)) wx)) := fun wx u u' k1 k2 => iv_gcd 3 k1 k2 (by decide) bt bl
  have HC : Hid (∀ wx u u', IV wx u (Nat.gcd t.natAbs l.natAbs : Nat) → IV wx u' 1 → Calls Tryz.prog 35 #[u, u'] wx (RetV (.val (.int .i64 (sgnI ((Nat.gcd t.natAbs l.natAbs : Nat) - 1)))) wx)) := fun wx u u' k1 k2 => iv_compare 3 k1 k2 (by decide) bg b1
  clear b1 e3 bt bl bg hg
  generalize sgnI ((Nat.gcd t.natAbs l.natAbs : Nat) - 1) = q at HC ⊢
  generalize ((Nat.gcd t.natAbs l.natAbs : Nat) : Int) = G at HG HC
  go_enter Tryz.func15, Tryz.ntmps15
  go_upto_region 3 with fail
  generalize hX : w.alloc _ = X
  have HX : Hid (FB2 w (.int .i64 t) (.int .i64 l) X) := by
    subst hX
    exact FB2.new w _ _
  clear hX g0 g1 g2 g3
  refine wp_region_flow 11 [21, 22, 23, 24, 25, 26, 27, 28, 29, 30, 2] (fun i => if i = 10 then 2 else 21 + i) (FB2 w (.int .i64 t) (.int .i64 l)) (Spl [.val (.pointer (some ⟨w.heap.size, 0, none⟩)), .val (.int .i64 t), .int t, .val (.pointer (some ⟨w.heap.size, 1, none⟩)), .val (.int .i64 l), .int l, .int G, .int 1, .val (.int .i64 q), .val (.bool (q == 0)), .val (.bool (q == 0))]) (by kernel_rfl) (by kernel_rfl) (by kernel_rfl) (by kernel_rfl) (fun i j hi hj h => by have h : (if i = 10 then 2 else 21 + i) = (if j = 10 then 2 else 21 + j) := h; split at h <;> split at h <;> omega) (by decide) FB2.keep Spl.keep ?_ ?_ ?_
  · exact HX.out.keep _ _ (Below.drew (Below.refl _ _))
  · intro i v wx o T' K ho hF hdep hin hout hK
    have hi : i < 11 := (Array.getElem?_eq_some_iff.1 ho).1
    have q21 := hin 21 (by decide)
    have q22 := hin 22 (by decide)
    have q23 := hin 23 (by decide)
    have q24 := hin 24 (by decide)
    have q25 := hin 25 (by decide)
    have q26 := hin 26 (by decide)
    have q27 := hin 27 (by decide)
    have q28 := hin 28 (by decide)
    have q29 := hin 29 (by decide)
    have q30 := hin 30 (by decide)
    have q2 := hin 2 (by decide)
    have sl1 : T'[1]? = some (.pointer (some ⟨w.heap.size, 0, none⟩)) := (hout 1 (by decide)).trans rfl
    clear hin hout
    have HF := Lib.hid hF
    have HD := Lib.hid hdep
    clear hF hdep
    rcases (by omega : i = 0 ∨ i = 1 ∨ i = 2 ∨ i = 3 ∨ i = 4 ∨ i = 5 ∨ i = 6 ∨ i = 7 ∨ i = 8 ∨ i = 9 ∨ i = 10) with rfl | rfl | rfl | rfl | rfl | rfl | rfl | rfl | rfl | rfl | rfl
    · obtain rfl := Option.some.inj ho
      clear q21 q22 q23 q24 q25 q26 q27 q28 q29 q30 q2 ho hi
      go_simp
      exact hK _ _ (Below.refl _ _) rfl
    · obtain rfl := Option.some.inj ho
      have e1 : v 21 = (.pointer (some ⟨w.heap.size, 0, none⟩)) := HD.out ⟨0, .data⟩ (by simp) rfl
      rw [e1] at q21
      obtain ⟨k0, k1, k2⟩ := HF.out.ba
      have hP := (rfl : Value.int .i64 t = .int .i64 t)
      clear q22 q23 q24 q25 q26 q27 q28 q29 q30 q2 sl1 ho hi
      go_simp
      exact hK _ _ (Below.refl _ _) hP
    · obtain rfl := Option.some.inj ho
      have e0 : v 22 = (.int .i64 t) := HD.out ⟨1, .data⟩ (by simp) rfl
      rw [e0] at q22
      clear q21 q23 q24 q25 q26 q27 q28 q29 q30 q2 sl1 ho hi
      go_simp
      (with_reducible refine (HO1.out _).mono ?_)
      rintro e w2 ⟨u, rfl, hu, hB⟩
      exact hK _ _ hB hu
    · obtain rfl := Option.some.inj ho
      clear q21 q22 q23 q24 q25 q26 q27 q28 q29 q30 q2 ho hi
      go_simp
      exact hK _ _ (Below.refl _ _) rfl
    · obtain rfl := Option.some.inj ho
      have e1 : v 24 = (.pointer (some ⟨w.heap.size, 1, none⟩)) := HD.out ⟨3, .data⟩ (by simp) rfl
      rw [e1] at q24
      obtain ⟨k0, k1, k2⟩ := HF.out.ba
      have hP := (rfl : Value.int .i64 l = .int .i64 l)
      clear q21 q22 q23 q25 q26 q27 q28 q29 q30 q2 sl1 ho hi
      go_simp
      exact hK _ _ (Below.refl _ _) hP
    · obtain rfl := Option.some.inj ho
      have e0 : v 25 = (.int .i64 l) := HD.out ⟨4, .data⟩ (by simp) rfl
      rw [e0] at q25
      clear q21 q22 q23 q24 q26 q27 q28 q29 q30 q2 sl1 ho hi
      go_simp
      (with_reducible refine (HO2.out _).mono ?_)
      rintro e w2 ⟨u, rfl, hu, hB⟩
      exact hK _ _ hB hu
    · obtain rfl := Option.some.inj ho
      have h0 : IV wx (v 23) t := HD.out ⟨2, .data⟩ (by simp) rfl
      have h1 : IV wx (v 26) l := HD.out ⟨5, .data⟩ (by simp) rfl
      clear q21 q22 q24 q25 q27 q28 q29 q30 q2 sl1 ho hi
      go_simp
      (with_reducible refine (HG.out _ _ _ h0 h1).mono ?_)
      rintro e w2 ⟨u, rfl, hu, hB⟩
      exact hK _ _ hB hu
    · obtain rfl := Option.some.inj ho
      clear q21 q22 q23 q24 q25 q26 q27 q28 q29 q30 q2 sl1 ho hi
      go_simp
      (with_reducible refine (HO3.out _).mono ?_)
      rintro e w2 ⟨u, rfl, hu, hB⟩
      exact hK _ _ hB hu
    · obtain rfl := Option.some.inj ho
      have h0 : IV wx (v 27) G := HD.out ⟨6, .data⟩ (by simp) rfl
      have h1 : IV wx (v 28) 1 := HD.out ⟨7, .data⟩ (by simp) rfl
      clear q21 q22 q23 q24 q25 q26 q29 q30 q2 sl1 ho hi
      go_simp
      (with_reducible refine (HC.out _ _ _ h0 h1).mono ?_)
      rintro e w2 ⟨u, rfl, hu, hB⟩
      exact hK _ _ hB hu
    · obtain rfl := Option.some.inj ho
      have e0 : v 29 = (.int .i64 q) := HD.out ⟨8, .data⟩ (by simp) rfl
      rw [e0] at q29
      clear q21 q22 q23 q24 q25 q26 q27 q28 q30 q2 sl1 ho hi
      go_simp
      exact hK _ _ (Below.refl _ _) rfl
    · obtain rfl := Option.some.inj ho
      have e0 : v 30 = (.bool (q == 0)) := HD.out ⟨9, .data⟩ (by simp) rfl
      rw [e0] at q30
      clear q21 q22 q23 q24 q25 q26 q27 q28 q29 q2 sl1 ho hi
      go_simp
      exact hK _ _ (Below.refl _ _) rfl
  · intro v wx hF hall
    have h2 : v 2 = .bool (q == 0) := hall 10 (by decide)
    have HB := Lib.hid hF.below
    clear hF hall
    simp only [over, List.setIfInBounds_toArray, List.set_cons_zero, List.set_cons_succ]
    rw [h2]
    generalize v 21 = v21
    generalize v 22 = v22
    generalize v 23 = v23
    generalize v 24 = v24
    generalize v 25 = v25
    generalize v 26 = v26
    generalize v 27 = v27
    generalize v 28 = v28
    generalize v 29 = v29
    generalize v 30 = v30
    go_wp2_with fail
    go_ret
    exact ⟨rfl, HB.out⟩

theorem rvalid_any (t l : Int) (w : World) : Calls Tryz.prog 15 #[.agg #[.int .i64 t, .int .i64 l]] w fun e w' => e = .returned (.bool (vld t l)) ∧ Below w.heap.size w w' := by
  have HV : vld t l = (!(decide (l < 1)) && !(decide (1152921504606846976 < l)) && !(decide (t < -1152921504606846976)) && !(decide (1152921504606846976 < t)) && (Nat.gcd t.natAbs l.toNat == 1)) := rfl
  cases g0 : decide (l < 1) with
  | true =>
    rw [HV, g0]
    exact rvalid_bad0 t l w g0
  | false =>
    cases g1 : decide (1152921504606846976 < l) with
    | true =>
      rw [HV, g0, g1]
      exact rvalid_bad1 t l w g0 g1
    | false =>
      cases g2 : decide (1152921504606846976 < t) with
      | true =>
        have e : vld t l = false := by rw [HV, g0, g1, g2]; cases decide (t < -1152921504606846976) <;> rfl
        rw [e]
        exact rvalid_bad2 t l w g0 g1 g2
      | false =>
        cases g3 : decide (t < -1152921504606846976) with
        | true =>
          rw [HV, g0, g1, g2, g3]
          exact rvalid_bad3 t l w g0 g1 g2 g3
        | false =>
          have h0 := of_decide_eq_false g0
          have h1 := of_decide_eq_false g1
          have h2 := of_decide_eq_false g2
          have h3 := of_decide_eq_false g3
          have H := rvalid_good t l w (by omega) g0 g1 g2 g3
          have el : l.toNat = l.natAbs := by omega
          have e : vld t l = (sgnI ((Nat.gcd t.natAbs l.natAbs : Nat) - 1) == 0) := by
            rw [HV, g0, g1, g2, g3, el]
            have hp : 0 < Nat.gcd t.natAbs l.natAbs := Nat.gcd_pos_of_pos_right _ (by omega)
            generalize Nat.gcd t.natAbs l.natAbs = G at hp
            unfold sgnI
            by_cases hG : G = 1
            · subst hG; rfl
            · rw [if_neg (show ¬ ((G : Int) - 1 < 0) by omega), if_neg (show ¬ ((G : Int) - 1 = 0) by omega)]
              have : (G == 1) = false := beq_eq_false_iff_ne.2 hG
              rw [this]
              rfl
          rw [e]
          exact H

end Go.Proofs.YtjoanclnaeephaaGreat
