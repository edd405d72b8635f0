/- Numbers that are valid, of the reference. The reference's Make of two ints. A region whose order is drawn, whose last two operations store. Powers, of the reference. Powers, of the reference: all arguments. -/
import Derived.Test.YtjoanclnaeephaaMRd
import Derived.Test.YtjoanclnaeephaaNum1
import Derived.Test.YtjoanclnaeephaaMPb

namespace Go.Proofs.Ytjoanclnaeephaa
open Go.RowKit

/-- The box of one number. -/
structure FB2 (w : World) (a b : Value) (wx : World) : Prop where
  below : Below w.heap.size w wx
  ba : B2n w.heap.size a b wx
theorem FB2.keep {w : World} {a b : Value} (wx wy : World) (h : FB2 w a b wx) (hb : Below wx.heap.size wx wy) : FB2 w a b wy :=
  ⟨h.below.trans (hb.mono h.below.size), h.ba.keep hb⟩
theorem FB2.new (w : World) (a b : Value) : FB2 w a b (w.alloc (.cells #[a, b] 23)) :=
  ⟨(Below.refl _ _).alloc (Nat.le_refl _) _, by simp [B2n, go_sem]⟩

set_option maxRecDepth 100000 in
set_option maxHeartbeats 20000000 in
theorem rvalid_bad0 (t l : Int) (w : World) (g0 : decide (l < 1) = true) : Calls Try.prog 17 #[.agg #[.int .i64 t, .int .i64 l]] w fun e w' => e = .returned (.bool false) ∧ Below w.heap.size w w' := by
  go_enter Try.func17, Try.ntmps17
  go_wp2_with fail
  go_ret
  exact ⟨rfl, below_alloc _ _⟩

set_option maxRecDepth 100000 in
set_option maxHeartbeats 20000000 in
theorem rvalid_bad1 (t l : Int) (w : World) (g0 : decide (l < 1) = false) (g1 : decide (1152921504606846976 < l) = true) : Calls Try.prog 17 #[.agg #[.int .i64 t, .int .i64 l]] w fun e w' => e = .returned (.bool false) ∧ Below w.heap.size w w' := by
  go_enter Try.func17, Try.ntmps17
  go_wp2_with fail
  go_ret
  exact ⟨rfl, below_alloc _ _⟩

set_option maxRecDepth 100000 in
set_option maxHeartbeats 20000000 in
theorem rvalid_bad2 (t l : Int) (w : World) (g0 : decide (l < 1) = false) (g1 : decide (1152921504606846976 < l) = false) (g2 : decide (1152921504606846976 < t) = true) : Calls Try.prog 17 #[.agg #[.int .i64 t, .int .i64 l]] w fun e w' => e = .returned (.bool false) ∧ Below w.heap.size w w' := by
  go_enter Try.func17, Try.ntmps17
  go_wp2_with fail
  go_ret
  exact ⟨rfl, below_alloc _ _⟩

set_option maxRecDepth 100000 in
set_option maxHeartbeats 20000000 in
theorem rvalid_bad3 (t l : Int) (w : World) (g0 : decide (l < 1) = false) (g1 : decide (1152921504606846976 < l) = false) (g2 : decide (1152921504606846976 < t) = false) (g3 : decide (t < -1152921504606846976) = true) : Calls Try.prog 17 #[.agg #[.int .i64 t, .int .i64 l]] w fun e w' => e = .returned (.bool false) ∧ Below w.heap.size w w' := by
  go_enter Try.func17, Try.ntmps17
  go_wp2_with fail
  go_ret
  exact ⟨rfl, below_alloc _ _⟩

set_option maxRecDepth 100000 in
set_option maxHeartbeats 20000000 in
theorem rvalid_good (t l : Int) (w : World) (hg : (1 ≤ l ∧ l ≤ 1152921504606846976) ∧ -1152921504606846976 ≤ t ∧ t ≤ 1152921504606846976) (g0 : decide (l < 1) = false) (g1 : decide (1152921504606846976 < l) = false) (g2 : decide (1152921504606846976 < t) = false) (g3 : decide (t < -1152921504606846976) = false) : Calls Try.prog 17 #[.agg #[.int .i64 t, .int .i64 l]] w fun e w' => e = .returned (.bool (sgnI ((Nat.gcd t.natAbs l.natAbs : Nat) - 1) == 0)) ∧ Below w.heap.size w w' := by
  have b1 : (1 : Int).natAbs < Bs ^ 3 := by decide
  have e3 : Bs ^ 3 = 1237940039285380274899124224 := by decide
  have bt : t.natAbs < Bs ^ 3 := by omega
  have bl : l.natAbs < Bs ^ 3 := by omega
  have bg : ((Nat.gcd t.natAbs l.natAbs : Nat) : Int).natAbs < Bs ^ 3 := by
    have : Nat.gcd t.natAbs l.natAbs ≤ l.natAbs := Nat.le_of_dvd (by omega) (Nat.gcd_dvd_right _ _)
    rw [Int.natAbs_natCast]
    omega
  have HO1 : Hid (∀ wx, Calls Try.prog 29 #[.int .i64 t] wx (RetV (.int t) wx)) := fun wx => iv_of t wx (by omega) (by omega)
  have HO2 : Hid (∀ wx, Calls Try.prog 29 #[.int .i64 l] wx (RetV (.int l) wx)) := fun wx => iv_of l wx (by omega) (by omega)
  have HO3 : Hid (∀ wx, Calls Try.prog 29 #[.int .i64 1] wx (RetV (.int 1) wx)) := fun wx => iv_of 1 wx (by decide) (by decide)
  have HG : Hid (∀ wx u u', IV wx u t → IV wx u' l → Calls Try.prog 46 #[u, u'] wx (RetV (.int (Nat.gcd t.natAbs l.natAbs : Nat)) wx)) := fun wx u u' k1 k2 => iv_gcd 3 k1 k2 (by decide) bt bl
  have HC : Hid (∀ wx u u', IV wx u (Nat.gcd t.natAbs l.natAbs : Nat) → IV wx u' 1 → Calls Try.prog 47 #[u, u'] wx (RetV (.val (.int .i64 (sgnI ((Nat.gcd t.natAbs l.natAbs : Nat) - 1)))) wx)) := fun wx u u' k1 k2 => iv_compare 3 k1 k2 (by decide) bg b1
  clear b1 e3 bt bl bg hg
  generalize sgnI ((Nat.gcd t.natAbs l.natAbs : Nat) - 1) = q at HC ⊢
  generalize ((Nat.gcd t.natAbs l.natAbs : Nat) : Int) = G at HG HC
  go_enter Try.func17, Try.ntmps17
  go_upto_region 3 with fail
  generalize hX : w.alloc _ = X
  have HX : Hid (FB2 w (.int .i64 t) (.int .i64 l) X) := by
    subst hX
    exact FB2.new w _ _
  clear hX g0 g1 g2 g3
  refine wp_region_flow 11 [21, 22, 23, 24, 25, 26, 27, 28, 29, 30, 2] (fun i => if i = 10 then 2 else 21 + i) (FB2 w (.int .i64 t) (.int .i64 l)) (Spl [.val (.pointer (some ⟨w.heap.size, 0, none⟩)), .val (.int .i64 t), .int t, .val (.pointer (some ⟨w.heap.size, 1, none⟩)), .val (.int .i64 l), .int l, .int G, .int 1, .val (.int .i64 q), .val (.bool (q == 0)), .val (.bool (q == 0))]) (by kernel_rfl) (by kernel_rfl) (by kernel_rfl) (by kernel_rfl) (fun i j hi hj h => by have h : (if i = 10 then 2 else 21 + i) = (if j = 10 then 2 else 21 + j) := h; split at h <;> split at h <;> omega) (by decide) FB2.keep Spl.keep ?_ ?_ ?_
  · exact HX.out.keep _ _ (Below.drew (Below.refl _ _))
  · intro i v wx o T' K ho hF hdep hin hout hK
    have hi : i < 11 := (Array.getElem?_eq_some_iff.1 ho).1
    have q21 := hin 21 (by decide)
    have q22 := hin 22 (by decide)
    have q23 := hin 23 (by decide)
    have q24 := hin 24 (by decide)
    have q25 := hin 25 (by decide)
    have q26 := hin 26 (by decide)
    have q27 := hin 27 (by decide)
    have q28 := hin 28 (by decide)
    have q29 := hin 29 (by decide)
    have q30 := hin 30 (by decide)
    have q2 := hin 2 (by decide)
    have sl1 : T'[1]? = some (.pointer (some ⟨w.heap.size, 0, none⟩)) := (hout 1 (by decide)).trans rfl
    clear hin hout
    have HF := Lib.hid hF
    have HD := Lib.hid hdep
    clear hF hdep
    rcases (by omega : i = 0 ∨ i = 1 ∨ i = 2 ∨ i = 3 ∨ i = 4 ∨ i = 5 ∨ i = 6 ∨ i = 7 ∨ i = 8 ∨ i = 9 ∨ i = 10) with rfl | rfl | rfl | rfl | rfl | rfl | rfl | rfl | rfl | rfl | rfl
    · obtain rfl := Option.some.inj ho
      clear q21 q22 q23 q24 q25 q26 q27 q28 q29 q30 q2 ho hi
      go_simp
      exact hK _ _ (Below.refl _ _) rfl
    · obtain rfl := Option.some.inj ho
      have e1 : v 21 = (.pointer (some ⟨w.heap.size, 0, none⟩)) := HD.out ⟨0, .data⟩ (by simp) rfl
      rw [e1] at q21
      obtain ⟨k0, k1, k2⟩ := HF.out.ba
      have hP := (rfl : Value.int .i64 t = .int .i64 t)
      clear q22 q23 q24 q25 q26 q27 q28 q29 q30 q2 sl1 ho hi
      go_simp
      exact hK _ _ (Below.refl _ _) hP
    · obtain rfl := Option.some.inj ho
      have e0 : v 22 = (.int .i64 t) := HD.out ⟨1, .data⟩ (by simp) rfl
      rw [e0] at q22
      clear q21 q23 q24 q25 q26 q27 q28 q29 q30 q2 sl1 ho hi
      go_simp
      (with_reducible refine (HO1.out _).mono ?_)
      rintro e w2 ⟨u, rfl, hu, hB⟩
      exact hK _ _ hB hu
    · obtain rfl := Option.some.inj ho
      clear q21 q22 q23 q24 q25 q26 q27 q28 q29 q30 q2 ho hi
      go_simp
      exact hK _ _ (Below.refl _ _) rfl
    · obtain rfl := Option.some.inj ho
      have e1 : v 24 = (.pointer (some ⟨w.heap.size, 1, none⟩)) := HD.out ⟨3, .data⟩ (by simp) rfl
      rw [e1] at q24
      obtain ⟨k0, k1, k2⟩ := HF.out.ba
      have hP := (rfl : Value.int .i64 l = .int .i64 l)
      clear q21 q22 q23 q25 q26 q27 q28 q29 q30 q2 sl1 ho hi
      go_simp
      exact hK _ _ (Below.refl _ _) hP
    · obtain rfl := Option.some.inj ho
      have e0 : v 25 = (.int .i64 l) := HD.out ⟨4, .data⟩ (by simp) rfl
      rw [e0] at q25
      clear q21 q22 q23 q24 q26 q27 q28 q29 q30 q2 sl1 ho hi
      go_simp
      (with_reducible refine (HO2.out _).mono ?_)
      rintro e w2 ⟨u, rfl, hu, hB⟩
      exact hK _ _ hB hu
    · obtain rfl := Option.some.inj ho
      have h0 : IV wx (v 23) t := HD.out ⟨2, .data⟩ (by simp) rfl
      have h1 : IV wx (v 26) l := HD.out ⟨5, .data⟩ (by simp) rfl
      clear q21 q22 q24 q25 q27 q28 q29 q30 q2 sl1 ho hi
      go_simp
      (with_reducible refine (HG.out _ _ _ h0 h1).mono ?_)
      rintro e w2 ⟨u, rfl, hu, hB⟩
      exact hK _ _ hB hu
    · obtain rfl := Option.some.inj ho
      clear q21 q22 q23 q24 q25 q26 q27 q28 q29 q30 q2 sl1 ho hi
      go_simp
      (with_reducible refine (HO3.out _).mono ?_)
      rintro e w2 ⟨u, rfl, hu, hB⟩
      exact hK _ _ hB hu
    · obtain rfl := Option.some.inj ho
      have h0 : IV wx (v 27) G := HD.out ⟨6, .data⟩ (by simp) rfl
      have h1 : IV wx (v 28) 1 := HD.out ⟨7, .data⟩ (by simp) rfl
      clear q21 q22 q23 q24 q25 q26 q29 q30 q2 sl1 ho hi
      go_simp
      (with_reducible refine (HC.out _ _ _ h0 h1).mono ?_)
      rintro e w2 ⟨u, rfl, hu, hB⟩
      exact hK _ _ hB hu
    · obtain rfl := Option.some.inj ho
      have e0 : v 29 = (.int .i64 q) := HD.out ⟨8, .data⟩ (by simp) rfl
      rw [e0] at q29
      clear q21 q22 q23 q24 q25 q26 q27 q28 q30 q2 sl1 ho hi
      go_simp
      exact hK _ _ (Below.refl _ _) rfl
    · obtain rfl := Option.some.inj ho
      have e0 : v 30 = (.bool (q == 0)) := HD.out ⟨9, .data⟩ (by simp) rfl
      rw [e0] at q30
      clear q21 q22 q23 q24 q25 q26 q27 q28 q29 q2 sl1 ho hi
      go_simp
      exact hK _ _ (Below.refl _ _) rfl
  · intro v wx hF hall
    have h2 : v 2 = .bool (q == 0) := hall 10 (by decide)
    have HB := Lib.hid hF.below
    clear hF hall
    simp only [over, List.setIfInBounds_toArray, List.set_cons_zero, List.set_cons_succ]
    rw [h2]
    generalize v 21 = v21
    generalize v 22 = v22
    generalize v 23 = v23
    generalize v 24 = v24
    generalize v 25 = v25
    generalize v 26 = v26
    generalize v 27 = v27
    generalize v 28 = v28
    generalize v 29 = v29
    generalize v 30 = v30
    go_wp2_with fail
    go_ret
    exact ⟨rfl, HB.out⟩

theorem rvalid_any (t l : Int) (w : World) : Calls Try.prog 17 #[.agg #[.int .i64 t, .int .i64 l]] w fun e w' => e = .returned (.bool (vld t l)) ∧ Below w.heap.size w w' := by
  have HV : vld t l = (!(decide (l < 1)) && !(decide (1152921504606846976 < l)) && !(decide (t < -1152921504606846976)) && !(decide (1152921504606846976 < t)) && (Nat.gcd t.natAbs l.toNat == 1)) := rfl
  cases g0 : decide (l < 1) with
  | true =>
    rw [HV, g0]
    exact rvalid_bad0 t l w g0
  | false =>
    cases g1 : decide (1152921504606846976 < l) with
    | true =>
      rw [HV, g0, g1]
      exact rvalid_bad1 t l w g0 g1
    | false =>
      cases g2 : decide (1152921504606846976 < t) with
      | true =>
        have e : vld t l = false := by rw [HV, g0, g1, g2]; cases decide (t < -1152921504606846976) <;> rfl
        rw [e]
        exact rvalid_bad2 t l w g0 g1 g2
      | false =>
        cases g3 : decide (t < -1152921504606846976) with
        | true =>
          rw [HV, g0, g1, g2, g3]
          exact rvalid_bad3 t l w g0 g1 g2 g3
        | false =>
          have h0 := of_decide_eq_false g0
          have h1 := of_decide_eq_false g1
          have h2 := of_decide_eq_false g2
          have h3 := of_decide_eq_false g3
          have H := rvalid_good t l w (by omega) g0 g1 g2 g3
          have el : l.toNat = l.natAbs := by omega
          have e : vld t l = (sgnI ((Nat.gcd t.natAbs l.natAbs : Nat) - 1) == 0) := by
            rw [HV, g0, g1, g2, g3, el]
            have hp : 0 < Nat.gcd t.natAbs l.natAbs := Nat.gcd_pos_of_pos_right _ (by omega)
            generalize Nat.gcd t.natAbs l.natAbs = G at hp
            unfold sgnI
            by_cases hG : G = 1
            · subst hG; rfl
            · rw [if_neg (show ¬ ((G : Int) - 1 < 0) by omega), if_neg (show ¬ ((G : Int) - 1 = 0) by omega)]
              have : (G == 1) = false := beq_eq_false_iff_ne.2 hG
              rw [this]
              rfl
          rw [e]
          exact H

end Go.Proofs.Ytjoanclnaeephaa

namespace Go.Proofs.Ytjoanclnaeephaa
open Go.RowKit

/-- The parts and the error of the quotient of two ints. -/
def fracT (t l : Int) : Int × Int × Int := if l = 0 then (0, 0, 6) else outT (qt t l)

theorem rv_numRt (K : Nat) {u : Value} {x : Rat} {w : World} (h : RFV w u x) (hK : K ≤ 250000) (hx : x.num.natAbs < Bs ^ K ∧ x.den < Bs ^ K) : Calls Try.prog 27 #[u] w (Rt (outT x).1 (outT x).2.1 (outT x).2.2 w) := by
  have := rv_num K h hK hx
  rw [outN_val] at this
  exact this

set_option maxRecDepth 100000 in
set_option maxHeartbeats 20000000 in
theorem rfraction_zero (t : Int) (w : World) : Calls Try.prog 9 #[.int .i64 t, .int .i64 0] w (Rt 0 0 6 w) := by
  go_enter Try.func9, Try.ntmps9
  go_wp2_with fail
  exact bodyPost_ret (v := .tuple #[.agg #[.int .i64 0, .int .i64 0], .int .i64 6]) (by simp [results, Try.results9, go_sem]) rfl ⟨rfl, below_alloc _ _⟩

set_option maxRecDepth 100000 in
set_option maxHeartbeats 20000000 in
theorem rfraction_walk (t l r1 r2 r3 : Int) (x : Rat) (w : World) (h0 : (l == 0) = false)
    (HO1 : Hid (∀ wx, Calls Try.prog 29 #[.int .i64 t] wx (RetV (.int t) wx))) (HO2 : Hid (∀ wx, Calls Try.prog 29 #[.int .i64 l] wx (RetV (.int l) wx)))
    (HM : Hid (∀ wx u u', IV wx u t → IV wx u' l → Calls Try.prog 28 #[u, u'] wx (RetV (.rat x) wx))) (HN : Hid (∀ wx u, RFV wx u x → Calls Try.prog 27 #[u] wx (Rt r1 r2 r3 wx))) :
    Calls Try.prog 9 #[.int .i64 t, .int .i64 l] w (Rt r1 r2 r3 w) := by
  go_enter Try.func9, Try.ntmps9
  go_upto_region 3 with fail
  generalize hX : w.alloc _ = X
  have HX : Hid (Below w.heap.size w X) := by
    subst hX
    exact below_alloc _ _
  obtain ⟨x0, x1, x2, x3, z1⟩ : X.cell? ⟨w.heap.size, 0, none⟩ = some (.int .i64 0) ∧ X.cell? ⟨w.heap.size, 1, none⟩ = some (.int .i64 0) ∧ X.frozen? ⟨w.heap.size, 0, none⟩ = false ∧ X.frozen? ⟨w.heap.size, 1, none⟩ = false ∧ w.heap.size < X.heap.size := by
    subst hX
    simp [go_sem]
  have HZ1 := Lib.hid z1
  clear hX z1 h0
  go_wp2_with fail
  (with_reducible refine (HO1.out _).mono ?_)
  rintro e w1 ⟨u1, rfl, hu1, hB1⟩
  have HU1 : Hid (IV w1 u1 t) := hu1
  have HB1 := Lib.hid hB1
  clear hu1 hB1
  go_wp2_with fail
  (with_reducible refine (HO2.out _).mono ?_)
  rintro e w2 ⟨u2, rfl, hu2, hB2⟩
  have HU2 : Hid (IV w2 u2 l) := hu2
  have HU1' := Lib.hid (HU1.out.keep hB2)
  have HB2 := Lib.hid (stepB HB1.out hB2)
  clear hu2 hB2 HU1 HB1
  go_wp2_with fail
  (with_reducible refine (HM.out _ _ _ HU1'.out HU2.out).mono ?_)
  rintro e w3 ⟨u3, rfl, hu3, hB3⟩
  have HU3 : Hid (RFV w3 u3 x) := hu3
  have HB3 := Lib.hid (stepB HB2.out hB3)
  clear hu3 hB3 HU1' HU2 HB2
  go_wp2_with fail
  (with_reducible refine (HN.out _ _ HU3.out).mono ?_)
  rintro e w4 ⟨rfl, hB4⟩
  have HB4 := Lib.hid (stepB HB3.out hB4)
  have HB := Lib.hid (HX.out.trans (HB4.out.mono HX.out.size))
  obtain ⟨C4, F4⟩ := bcell HB4.out
  rw [← C4 _ _ HZ1.out] at x0 x1
  rw [← F4 _ _ HZ1.out] at x2 x3
  clear hB4 HU3 HB3 C4 F4 HB4 HX
  go_wp2_with fail
  exact bodyPost_ret (v := .tuple #[.agg #[.int .i64 r1, .int .i64 r2], .int .i64 r3]) (by simp [results, Try.results9, go_sem, x0, x1]) rfl ⟨rfl, (HB.out.setCell (Nat.le_refl _) _).setCell (Nat.le_refl _) _⟩

theorem rfraction_any (t l : Int) (w : World) (ht : -9223372036854775808 ≤ t ∧ t ≤ 9223372036854775807) (hl : -9223372036854775808 ≤ l ∧ l ≤ 9223372036854775807) :
    Calls Try.prog 9 #[.int .i64 t, .int .i64 l] w (Rt (fracT t l).1 (fracT t l).2.1 (fracT t l).2.2 w) := by
  by_cases h0 : l = 0
  · subst h0
    exact rfraction_zero t w
  · have e3 : Bs ^ 3 = 1237940039285380274899124224 := by decide
    have bt : t.natAbs < Bs ^ 3 := by omega
    have bl : l.natAbs < Bs ^ 3 := by omega
    have hq := qt_le t l h0
    have e : fracT t l = outT (qt t l) := if_neg h0
    rw [e]
    exact rfraction_walk t l _ _ _ (qt t l) w (beq_eq_false_iff_ne.2 h0) (Lib.hid fun wx => iv_of t wx ht.1 ht.2) (Lib.hid fun wx => iv_of l wx hl.1 hl.2)
      (Lib.hid fun wx u u' k1 k2 => iv_make 3 k1 k2 (by decide) bt bl h0) (Lib.hid fun wx u k => rv_numRt 3 k (by decide) ⟨Nat.lt_of_le_of_lt hq.1 bt, Nat.lt_of_le_of_lt hq.2 bl⟩)

end Go.Proofs.Ytjoanclnaeephaa

namespace Go.Proofs.Ytjoanclnaeephaa
open Go Go.RowKit

section
variable {P : Program} {ops : Array Oper} {Q : Exit → Act → World → Prop}

/-- What operation n waits for, also through others. -/
def waited (ops : Array Oper) (n : Nat) : List Nat :=
  (List.range n).reverse.foldl (fun acc j => if acc.contains j then acc ++ onOf ops j else acc) (onOf ops n)
  where
  onOf (ops : Array Oper) (j : Nat) : List Nat := ((ops[j]?).map fun o => (o.after.toList.filter fun e => Region.binds .any e).map (·.on)).getD []

theorem mem_onOf {j x : Nat} (h : x ∈ waited.onOf ops j) : ∃ o, ops[j]? = some o ∧ ∃ e ∈ o.after, Region.binds .any e = true ∧ e.on = x := by
  unfold waited.onOf at h
  cases ho : ops[j]? with
  | none => rw [ho] at h; simp at h
  | some o =>
    rw [ho] at h
    simp only [Option.map_some, Option.getD_some, List.mem_map, List.mem_filter] at h
    obtain ⟨e, ⟨he, hb⟩, hx⟩ := h
    exact ⟨o, rfl, e, Array.mem_toList_iff.1 he, hb, hx⟩

theorem waited_done {b : Nat → Bool} {n : Nat} {o : Oper} (ho : ops[n]? = some o) (hdep : ∀ e ∈ o.after, Region.binds .any e = true → b e.on = true) (hc : ∀ j o, ops[j]? = some o → b j = true → ∀ e ∈ o.after, Region.binds .any e = true → b e.on = true) :
    ∀ x ∈ waited ops n, b x = true := by
  have key : ∀ (L : List Nat) (acc : List Nat), (∀ x ∈ acc, b x = true) → ∀ x ∈ L.foldl (fun acc j => if acc.contains j then acc ++ waited.onOf ops j else acc) acc, b x = true := by
    intro L
    induction L with
    | nil => intro acc h; exact h
    | cons j L ih =>
      intro acc h
      rw [List.foldl_cons]
      refine ih _ ?_
      split
      · rename_i hj
        intro x hx
        rcases List.mem_append.1 hx with hx | hx
        · exact h x hx
        · obtain ⟨o', ho', e, he, hb, rfl⟩ := mem_onOf hx
          exact hc j o' ho' (h j (by simpa using hj)) e he hb
      · exact h
  refine key _ _ fun x hx => ?_
  obtain ⟨o', ho', e, he, hb, rfl⟩ := mem_onOf hx
  rw [ho] at ho'
  injection ho' with ho'
  subst ho'
  exact hdep e he hb

/-- Every operation but the last two makes a value; the last two store, one after the other, after all others. -/
theorem wp_region_flow_store2 {id : Nat} {T : Array Value} {df : List Deferred} {w : World} (n : Nat) (S : List Nat) (d : Nat → Nat) (Fix End : World → Prop) (Mid : (Nat → Value) → World → Prop) (G : Nat → Value → World → Prop)
    (hm : P.follows .mixedOrders = true) (hf : forward .any ops = true) (hS : S.all (fun j => decide (j < T.size)) = true) (hn : ops.size = n + 2)
    (hw : ((List.range n).all fun i => (waited ops n).contains i) = true) (hw2 : (waited.onOf ops (n + 1)).contains n = true)
    (hd : ∀ i j, i < n → j < n → d i = d j → i = j) (hdS : ∀ i, i < n → d i ∈ S)
    (hkeep : ∀ wx wy, Fix wx → Below wx.heap.size wx wy → Fix wy) (hG : ∀ i u wx wy, Below wx.heap.size wx wy → G i u wx → G i u wy)
    (h0 : Fix w.drew)
    (hstep : ∀ (i : Nat) (v : Nat → Value) (wx : World) (o : Oper) (T' : Array Value) (K : Act → World → Prop), i < n → ops[i]? = some o → Fix wx → (∀ e ∈ o.after, Region.binds .any e = true → G e.on (v (d e.on)) wx) →
      (∀ j, j ∈ S → T'[j]? = some (v j)) → (∀ j, j ∉ S → T'[j]? = T[j]?) →
      (∀ x w', Below wx.heap.size wx w' → G i x w' → K ⟨T'.setIfInBounds (d i) x, df⟩ w') →
      if Region.wanted o (yielded ops T') = true then Oper.wp P o ⟨T', df⟩ wx K Q else K (Act.put ⟨T', df⟩ o.dst undef) wx)
    (hstore1 : ∀ (v : Nat → Value) (wx : World) (o : Oper) (T' : Array Value) (K : Act → World → Prop), ops[n]? = some o → Fix wx → (∀ i, i < n → G i (v (d i)) wx) →
      (∀ j, j ∈ S → T'[j]? = some (v j)) → (∀ j, j ∉ S → T'[j]? = T[j]?) → (∀ w', Mid v w' → K ⟨T', df⟩ w') →
      if Region.wanted o (yielded ops T') = true then Oper.wp P o ⟨T', df⟩ wx K Q else K (Act.put ⟨T', df⟩ o.dst undef) wx)
    (hstore2 : ∀ (v : Nat → Value) (wx : World) (o : Oper) (T' : Array Value) (K : Act → World → Prop), ops[n + 1]? = some o → Mid v wx →
      (∀ j, j ∈ S → T'[j]? = some (v j)) → (∀ j, j ∉ S → T'[j]? = T[j]?) → (∀ w', End w' → K ⟨T', df⟩ w') →
      if Region.wanted o (yielded ops T') = true then Oper.wp P o ⟨T', df⟩ wx K Q else K (Act.put ⟨T', df⟩ o.dst undef) wx)
    (hend : ∀ (v : Nat → Value) (wx : World), End wx → Q .normal ⟨over T S v, df⟩ wx) :
    (Code.region id ops true).wp P Q ⟨T, df⟩ w := by
  refine wp_region_inv3 S (fun b v wx => (∀ j o, ops[j]? = some o → b j = true → ∀ e ∈ o.after, Region.binds .any e = true → b e.on = true) ∧ (b n = false → b (n + 1) = false ∧ Fix wx ∧ ∀ i, i < n → b i = true → G i (v (d i)) wx) ∧
    (b n = true → (∀ i, i < n → b i = true) ∧ (b (n + 1) = false → Mid v wx) ∧ (b (n + 1) = true → End wx))) hm hf hS ⟨fun _ _ _ h => Bool.noConfusion h, fun _ => ⟨rfl, h0, fun _ _ h => Bool.noConfusion h⟩, fun h => Bool.noConfusion h⟩ ?_ ?_
  · rintro i b v wx o T' K ho hdep hb ⟨hc, h1, h2⟩ hin hout hK hK'
    have hi : i < n + 2 := by rw [← hn]; exact (Array.getElem?_eq_some_iff.1 ho).1
    have hon : ∀ j o, ops[j]? = some o → ∀ e ∈ o.after, Region.binds .any e = true → e.on < j := fun j o ho e he hbd => by
      have hj : j < ops.size := (Array.getElem?_eq_some_iff.1 ho).1
      have h := List.all_eq_true.1 hf j (List.mem_range.2 hj)
      simp only [ho, Option.map_some, Option.getD_some] at h
      have h2 := (Array.all_eq_true_iff_forall_mem.1 h) e he
      simpa [hbd] using h2
    have hc' : ∀ j o, ops[j]? = some o → updB b i j = true → ∀ e ∈ o.after, Region.binds .any e = true → updB b i e.on = true := fun j o' ho' hj e he hbd => by
      have keep : ∀ k, b k = true → updB b i k = true := fun k hk => by
        unfold updB
        split
        · rfl
        · exact hk
      by_cases e1 : j = i
      · subst e1
        rw [ho] at ho'
        injection ho' with ho'
        subst ho'
        exact keep _ (hdep e he hbd)
      · unfold updB at hj
        rw [if_neg e1] at hj
        exact keep _ (hc j o' ho' hj e he hbd)
    have hbi : ∀ j, j ≠ i → updB b i j = b j := fun j hj => by unfold updB; rw [if_neg hj]
    have hbs : updB b i i = true := by unfold updB; rw [if_pos rfl]
    by_cases hl : i < n
    · have hbn : b n = false := by
        cases hbn : b n with
        | false => rfl
        | true => exact absurd ((h2 hbn).1 i hl) (by rw [hb]; decide)
      obtain ⟨hb1, hF, hall⟩ := h1 hbn
      refine hstep i v wx o T' K hl ho hF (fun e he hbd => hall _ (Nat.lt_trans (hon i o ho e he hbd) hl) (hdep e he hbd)) hin hout (fun x w' hB hx => hK _ _ _ (hdS i hl) ⟨hc', fun _ => ⟨by rw [hbi _ (by omega)]; exact hb1, hkeep _ _ hF hB, fun j hj hbj => ?_⟩, fun h => ?_⟩)
      · by_cases e : j = i
        · subst e
          have e2 : updV v (d j) x (d j) = x := by unfold updV; rw [if_pos rfl]
          rw [e2]
          exact hx
        · rw [updV_other hd hl hj e]
          rw [hbi _ e] at hbj
          exact hG _ _ _ _ hB (hall j hj hbj)
      · rw [hbi _ (by omega), hbn] at h
        exact Bool.noConfusion h
    · by_cases hl2 : i = n
      · subst hl2
        obtain ⟨hb1, hF, hall⟩ := h1 hb
        have hdone : ∀ j, j < i → b j = true := fun j hj => waited_done ho hdep hc j (by simpa using List.all_eq_true.1 hw j (List.mem_range.2 hj))
        refine hstore1 v wx o T' K ho hF (fun j hj => hall j hj (hdone j hj)) hin hout (fun w' hM => hK' _ ⟨hc', fun h => ?_, fun _ => ⟨fun j hj => by rw [hbi _ (by omega)]; exact hdone j hj, fun _ => hM, fun h => ?_⟩⟩)
        · rw [hbs] at h
          exact Bool.noConfusion h
        · rw [hbi _ (by omega), hb1] at h
          exact Bool.noConfusion h
      · have hi2 : i = n + 1 := by omega
        subst hi2
        have hbn : b n = true := by
          obtain ⟨o', ho', e, he, hbd, hx⟩ := mem_onOf (show n ∈ waited.onOf ops (n + 1) by simpa using hw2)
          rw [ho] at ho'
          injection ho' with ho'
          subst ho'
          rw [← hx]
          exact hdep e he hbd
        obtain ⟨hall, hM, -⟩ := h2 hbn
        refine hstore2 v wx o T' K ho (hM hb) hin hout (fun w' hE => hK' _ ⟨hc', fun h => ?_, fun _ => ⟨fun j hj => by rw [hbi _ (by omega)]; exact hall j hj, fun h => ?_, fun _ => hE⟩⟩)
        · rw [hbi _ (by omega), hbn] at h
          exact Bool.noConfusion h
        · rw [hbs] at h
          exact Bool.noConfusion h
  · rintro b v wx hb ⟨-, -, h2⟩
    exact hend v wx ((h2 (hb n (by omega))).2.2 (hb (n + 1) (by omega)))
end

end Go.Proofs.Ytjoanclnaeephaa

namespace Go.Proofs.Ytjoanclnaeephaa
open Go.RowKit

theorem B2n.set_3 {g k : Nat} {a b : Value} {w : World} (h : B2n g a b w) (hk : g ≠ k) (p q r : Value) : B2n g a b (set3 w k p q r) := by
  obtain ⟨h1, h2, h4⟩ := h
  have e : (set3 w k p q r).heap[g]? = w.heap[g]? := ((Below.heap_setCell _ _ _ _ hk).trans (Below.heap_setCell _ _ _ _ hk)).trans (Below.heap_setCell _ _ _ _ hk)
  exact ⟨(World.cell?_of_block (w := w) (a := ⟨g, 0, none⟩) e).trans h1, (World.cell?_of_block (w := w) (a := ⟨g, 1, none⟩) e).trans h2, Nat.lt_of_lt_of_le h4 (Nat.le_trans (Nat.le_trans (size_set _ _ _ _) (size_set _ _ _ _)) (size_set _ _ _ _))⟩
theorem Wr.set_3 {g k T : Nat} {w : World} (h : Wr g T w) (hk : g ≠ k) (p q r : Value) : Wr g T (set3 w k p q r) := ((h.far hk _ _).far hk _ _).far hk _ _

/-- What stays while a power is made: the number's box, the result's box, the boxes of the two products. -/
structure PwF (w : World) (gp gq : Nat) (t l : Int) (wr : World) : Prop where
  ord : w.heap.size + 1 < gp ∧ gp < gq
  below : Below w.heap.size w wr
  ba : B2n w.heap.size (.int .i64 t) (.int .i64 l) wr
  wn : Wr (w.heap.size + 1) 23 wr
  wp : W3 gp wr
  wq : W3 gq wr
theorem PwF.keep {w : World} {gp gq : Nat} {t l : Int} {wx wy : World} (h : PwF w gp gq t l wx) (hb : Below wx.heap.size wx wy) : PwF w gp gq t l wy :=
  ⟨h.ord, h.below.trans (hb.mono h.below.size), h.ba.keep hb, h.wn.keep hb, h.wp.keep hb, h.wq.keep hb⟩
theorem PwF.set_p {w : World} {gp gq : Nat} {t l : Int} {wx : World} (h : PwF w gp gq t l wx) (a b c : Value) : PwF w gp gq t l (set3 wx gp a b c) := by
  have := h.ord
  exact ⟨h.ord, set3_below h.below (by omega) _ _ _, h.ba.set_3 (by omega) _ _ _, h.wn.set_3 (by omega) _ _ _, (h.wp.set _ _ _).2, h.wq.set_3 (by omega) _ _ _⟩
theorem PwF.set_q {w : World} {gp gq : Nat} {t l : Int} {wx : World} (h : PwF w gp gq t l wx) (a b c : Value) : PwF w gp gq t l (set3 wx gq a b c) := by
  have := h.ord
  exact ⟨h.ord, set3_below h.below (by omega) _ _ _, h.ba.set_3 (by omega) _ _ _, h.wn.set_3 (by omega) _ _ _, h.wp.set_3 (by omega) _ _ _, (h.wq.set _ _ _).2⟩
/-- While the two products of one round are made. -/
structure Pw8 (w : World) (gp gq : Nat) (t l P Q s1 s2 : Int) (n1 n2 : Bool) (A1 A2 : Option Addr) (m1 c1 m2 c2 : Nat) (wx : World) : Prop where
  fr : PwF w gp gq t l wx
  bp : B3 gp (.int .i64 s1) (.bool n1) (.slice A1 m1 c1) wx
  bq : B3 gq (.int .i64 s2) (.bool n2) (.slice A2 m2 c2) wx
  rp : RI wx s1 n1 A1 m1 c1 P
  rq : RI wx s2 n2 A2 m2 c2 Q
theorem Pw8.keep {w : World} {gp gq : Nat} {t l P Q s1 s2 : Int} {n1 n2 : Bool} {A1 A2 : Option Addr} {m1 c1 m2 c2 : Nat} (wx wy : World) (h : Pw8 w gp gq t l P Q s1 s2 n1 n2 A1 A2 m1 c1 m2 c2 wx) (hb : Below wx.heap.size wx wy) : Pw8 w gp gq t l P Q s1 s2 n1 n2 A1 A2 m1 c1 m2 c2 wy :=
  ⟨h.fr.keep hb, h.bp.keep hb, h.bq.keep hb, h.rp.keep hb, h.rq.keep hb⟩
/-- Between two rounds. -/
structure PwS (w : World) (gp gq : Nat) (t l P Q : Int) (wr : World) : Prop where
  fr : PwF w gp gq t l wr
  bp : BI wr gp P
  bq : BI wr gq Q
theorem PwS.keep {w : World} {gp gq : Nat} {t l P Q : Int} {wx wy : World} (h : PwS w gp gq t l P Q wx) (hb : Below wx.heap.size wx wy) : PwS w gp gq t l P Q wy := ⟨h.fr.keep hb, h.bp.keep hb, h.bq.keep hb⟩

set_option maxRecDepth 100000 in
set_option maxHeartbeats 20000000 in
theorem rpow_walk (t l : Int) (N : Nat) (r1 r2 r3 : Int) (x : Rat) (w : World) (f g u1 u2 : Nat → Int) (b1 b2 : Nat → Bool) (sm : Nat → Prop)
    (HV : Hid (∀ wx, Calls Try.prog 17 #[.agg #[.int .i64 t, .int .i64 l]] wx fun e w' => e = .returned (.bool true) ∧ Below wx.heap.size wx w'))
    (g0 : decide ((N : Int) < 0) = false) (g1 : decide (10000 < (N : Int)) = false)
    (HO0 : Hid (∀ wx, Calls Try.prog 29 #[.int .i64 1] wx (RetI 1 wx)))
    (HO1 : Hid (∀ wx, Calls Try.prog 29 #[.int .i64 t] wx (RetV (.int t) wx))) (HO2 : Hid (∀ wx, Calls Try.prog 29 #[.int .i64 l] wx (RetV (.int l) wx)))
    (HT1 : Hid (∀ k, k < N → sm k → ∀ wx u u', IV wx u (f k) → IV wx u' t → Calls Try.prog 30 #[u, u'] wx (RetV (.int (f (k + 1))) wx)))
    (HT2 : Hid (∀ k, k < N → sm k → ∀ wx u u', IV wx u (g k) → IV wx u' l → Calls Try.prog 30 #[u, u'] wx (RetV (.int (g (k + 1))) wx)))
    (HS1 : Hid (∀ k, k < N → sm k → ∀ wx s neg A n c, RI wx s neg A n c (f (k + 1)) → Calls Try.prog 31 #[.agg #[.int .i64 s, .bool neg, .slice A n c]] wx fun e w' => e = .returned (.tuple #[.int .i64 (u1 k), .bool (b1 k)]) ∧ Below wx.heap.size wx w'))
    (HS2 : Hid (∀ k, k < N → sm k → ∀ wx s neg A n c, RI wx s neg A n c (g (k + 1)) → Calls Try.prog 31 #[.agg #[.int .i64 s, .bool neg, .slice A n c]] wx fun e w' => e = .returned (.tuple #[.int .i64 (u2 k), .bool (b2 k)]) ∧ Below wx.heap.size wx w'))
    (HM : Hid (∀ k, k < N → sm k → b1 k = true → b2 k = true → sm (k + 1))) (HX : Hid (∀ k, k < N → sm k → b1 k = false ∨ b2 k = false → r1 = 0 ∧ r2 = 0 ∧ r3 = 3))
    (h0 : Hid (sm 0 ∧ f 0 = 1 ∧ g 0 = 1)) (hx : Hid (x.num = f N ∧ (x.den : Int) = g N))
    (HN : Hid (∀ wx u, RFV wx u x → Calls Try.prog 27 #[u] wx (Rt r1 r2 r3 wx))) :
    Calls Try.prog 10 #[.agg #[.int .i64 t, .int .i64 l], .int .i64 (N : Int)] w (Rt r1 r2 r3 w) := by
  go_enter Try.func10, Try.ntmps10
  go_upto_region 1 with fail
  generalize hX : (w.alloc _).alloc _ = X
  have HB : Hid (Below w.heap.size w X ∧ B2n w.heap.size (.int .i64 t) (.int .i64 l) X ∧ Wr (w.heap.size + 1) 23 X) := by
    subst hX
    refine ⟨below_two w _ _, by simp [B2n, go_sem], Wr.new _ _ _ _ (by simp)⟩
  clear hX
  obtain ⟨k0, k1, -⟩ := HB.out.2.1
  go_wp2_with fail
  (with_reducible refine (HV.out _).mono ?_)
  rintro e w1 ⟨rfl, hB1⟩
  have HB1 := Lib.hid hB1
  clear k0 k1 hB1
  go_wp2_with fail
  (with_reducible refine (HO0.out _).mono ?_)
  rintro e w2 ⟨s1, n1, A1, m1, c1, rfl, hR1, hB2⟩
  have HB2 := Lib.hid (stepB HB1.out hB2)
  have HR1 := Lib.hid hR1
  clear hB2 hR1
  go_wp2_with fail
  (with_reducible refine (HO0.out _).mono ?_)
  rintro e w3 ⟨s2, n2, A2, m2, c2, rfl, hR2, hB3⟩
  have HB3 := Lib.hid (stepB HB2.out hB3)
  have HR1' := Lib.hid (HR1.out.keep hB3)
  have HR2 := Lib.hid hR2
  clear hB3 hR2 HR1
  go_upto_region 6 with fail
  generalize hY : (w3.alloc _).alloc _ = Y
  have HY : Hid (PwS w w3.heap.size (w3.heap.size + 1) t l 1 1 Y) := by
    have hYB : Below w3.heap.size w3 Y := by subst hY; exact below_two w3 _ _
    have hz : w.heap.size + 1 < w3.heap.size := Nat.lt_of_lt_of_le HB.out.2.2.2.2.2.lt HB3.out.size
    have hXY : Below X.heap.size X Y := stepB HB3.out hYB
    refine ⟨⟨⟨hz, Nat.lt_succ_self _⟩, HB.out.1.trans (hXY.mono HB.out.1.size), HB.out.2.1.keep hXY, HB.out.2.2.keep hXY, ?_, ?_⟩, ⟨s1, n1, A1, m1, c1, ?_, HR1'.out.keep hYB⟩, ⟨s2, n2, A2, m2, c2, ?_, HR2.out.keep hYB⟩⟩
    · subst hY; exact (W3.new _ _ _ _ rfl).keep (below_alloc _ _)
    · subst hY; exact W3.new _ _ _ _ (by simp)
    · subst hY; simp [B3, go_sem]
    · subst hY; simp [B3, go_sem]
  clear hY HB HB1 HB2 HB3 HR1' HR2
  generalize w3.heap.size = gp at HY ⊢
  have hgq : ∃ gq, gq = gp + 1 := ⟨_, rfl⟩
  obtain ⟨gq, hgq⟩ := hgq
  rw [← hgq] at HY ⊢
  clear hgq
  clear w3 w2 w1
  go_wp2_with fail
  go_loopw [28] (fun s wr => ∃ k : Nat, Hid (k ≤ N) ∧ s = .int .i64 (k : Int) ∧ Hid (sm k) ∧ Hid (PwS w gp gq t l (f k) (g k) wr)) (fun s _ => N - (intOf s).toNat)
  case atStart =>
    refine ⟨0, Nat.zero_le _, rfl, h0.out.1, ?_⟩
    rw [h0.out.2.1, h0.out.2.2]
    exact HY
  case round =>
    clear HY
    obtain ⟨k, hk, rfl, hsm, hP⟩ := hrel
    obtain ⟨s1, n1, A1, m1, c1, hb1, hR1⟩ := hP.out.bp
    obtain ⟨s2, n2, A2, m2, c2, hb2, hR2⟩ := hP.out.bq
    have HR1 := Lib.hid hR1
    have HR2 := Lib.hid hR2
    have HBp := Lib.hid hb1
    have HBq := Lib.hid hb2
    clear hR1 hR2 hb1 hb2
    by_cases hlt : k < N
    · have HT1k := Lib.hid (HT1.out k hlt hsm.out)
      have HT2k := Lib.hid (HT2.out k hlt hsm.out)
      have HS1k := Lib.hid (HS1.out k hlt hsm.out)
      have HS2k := Lib.hid (HS2.out k hlt hsm.out)
      have HMk := Lib.hid (HM.out k hlt hsm.out)
      have HXk := Lib.hid (HX.out k hlt hsm.out)
      have hki : (k : Int) < (N : Int) := by omega
      have hkw : (k : Int) < 10000 := by have := of_decide_eq_false g1; omega
      have HLT := Lib.hid hlt
      clear hlt
      go_upto_region 8 with fail
      refine wp_region_flow_store2 10 [30, 31, 32, 33, 34, 35, 36, 37, 38, 39] (fun i => 30 + i) (Pw8 w gp gq t l (f k) (g k) s1 s2 n1 n2 A1 A2 m1 c1 m2 c2) (PwS w gp gq t l (f (k + 1)) (g (k + 1))) (fun v wx => PwF w gp gq t l wx ∧ BI wx gp (f (k + 1)) ∧ IV wx (v 39) (g (k + 1))) (Spl [.int (f k), .val (.pointer (some ⟨w.heap.size, 0, none⟩)), .val (.int .i64 t), .int t, .int (f (k + 1)), .int (g k), .val (.pointer (some ⟨w.heap.size, 1, none⟩)), .val (.int .i64 l), .int l, .int (g (k + 1))]) (by kernel_rfl) (by kernel_rfl) (by kernel_rfl) (by kernel_rfl) (by kernel_rfl) (by kernel_rfl) (fun i j _ _ h => Nat.add_left_cancel (show 30 + i = 30 + j from h)) (by decide) Pw8.keep Spl.keep ?_ ?_ ?_ ?_ ?_
      · exact ⟨hP.out.fr.keep (Below.drew (Below.refl _ _)), HBp.out, HBq.out, HR1.out, HR2.out⟩
      · intro i v wx o T' K hi ho hF hdep hin hout hK
        have q30 := hin 30 (by decide)
        have q31 := hin 31 (by decide)
        have q32 := hin 32 (by decide)
        have q33 := hin 33 (by decide)
        have q34 := hin 34 (by decide)
        have q35 := hin 35 (by decide)
        have q36 := hin 36 (by decide)
        have q37 := hin 37 (by decide)
        have q38 := hin 38 (by decide)
        have q39 := hin 39 (by decide)
        have sl2 : T'[2]? = some (.pointer (some ⟨w.heap.size, 0, none⟩)) := (hout 2 (by decide)).trans rfl
        have sl6 : T'[6]? = some (.pointer (some ⟨gp, 0, none⟩)) := (hout 6 (by decide)).trans rfl
        have sl7 : T'[7]? = some (.pointer (some ⟨gq, 0, none⟩)) := (hout 7 (by decide)).trans rfl
        clear hin hout
        have HF := Lib.hid hF
        have HD := Lib.hid hdep
        clear hF hdep
        rcases (by omega : i = 0 ∨ i = 1 ∨ i = 2 ∨ i = 3 ∨ i = 4 ∨ i = 5 ∨ i = 6 ∨ i = 7 ∨ i = 8 ∨ i = 9) with rfl | rfl | rfl | rfl | rfl | rfl | rfl | rfl | rfl | rfl
        · obtain rfl := Option.some.inj ho
          obtain ⟨k0, k1, k2, k3⟩ := HF.out.bp
          have hP := (⟨s1, n1, A1, m1, c1, rfl, HF.out.rp⟩ : IV wx (.agg #[.int .i64 s1, .bool n1, .slice A1 m1 c1]) (f k))
          clear q30 q31 q32 q33 q34 q35 q36 q37 q38 q39 sl2 sl7 ho hi
          go_simp
          exact hK _ _ (Below.refl _ _) hP
        · obtain rfl := Option.some.inj ho
          clear q30 q31 q32 q33 q34 q35 q36 q37 q38 q39 sl6 sl7 ho hi
          go_simp
          exact hK _ _ (Below.refl _ _) rfl
        · obtain rfl := Option.some.inj ho
          have e1 : v 31 = (.pointer (some ⟨w.heap.size, 0, none⟩)) := HD.out ⟨1, .data⟩ (by simp) rfl
          rw [e1] at q31
          obtain ⟨k0, k1, k2⟩ := HF.out.fr.ba
          have hP := (rfl : Value.int .i64 t = .int .i64 t)
          clear q30 q32 q33 q34 q35 q36 q37 q38 q39 sl2 sl6 sl7 ho hi
          go_simp
          exact hK _ _ (Below.refl _ _) hP
        · obtain rfl := Option.some.inj ho
          have e0 : v 32 = (.int .i64 t) := HD.out ⟨2, .data⟩ (by simp) rfl
          rw [e0] at q32
          clear q30 q31 q33 q34 q35 q36 q37 q38 q39 sl2 sl6 sl7 ho hi
          go_simp
          (with_reducible refine (HO1.out _).mono ?_)
          rintro e w2 ⟨u, rfl, hu, hB⟩
          exact hK _ _ hB hu
        · obtain rfl := Option.some.inj ho
          have h0 : IV wx (v 30) (f k) := HD.out ⟨0, .data⟩ (by simp) rfl
          have h1 : IV wx (v 33) t := HD.out ⟨3, .data⟩ (by simp) rfl
          clear q31 q32 q34 q35 q36 q37 q38 q39 sl2 sl6 sl7 ho hi
          go_simp
          (with_reducible refine (HT1k.out _ _ _ h0 h1).mono ?_)
          rintro e w2 ⟨u, rfl, hu, hB⟩
          exact hK _ _ hB hu
        · obtain rfl := Option.some.inj ho
          obtain ⟨k0, k1, k2, k3⟩ := HF.out.bq
          have hP := (⟨s2, n2, A2, m2, c2, rfl, HF.out.rq⟩ : IV wx (.agg #[.int .i64 s2, .bool n2, .slice A2 m2 c2]) (g k))
          clear q30 q31 q32 q33 q34 q35 q36 q37 q38 q39 sl2 sl6 ho hi
          go_simp
          exact hK _ _ (Below.refl _ _) hP
        · obtain rfl := Option.some.inj ho
          clear q30 q31 q32 q33 q34 q35 q36 q37 q38 q39 sl6 sl7 ho hi
          go_simp
          exact hK _ _ (Below.refl _ _) rfl
        · obtain rfl := Option.some.inj ho
          have e1 : v 36 = (.pointer (some ⟨w.heap.size, 1, none⟩)) := HD.out ⟨6, .data⟩ (by simp) rfl
          rw [e1] at q36
          obtain ⟨k0, k1, k2⟩ := HF.out.fr.ba
          have hP := (rfl : Value.int .i64 l = .int .i64 l)
          clear q30 q31 q32 q33 q34 q35 q37 q38 q39 sl2 sl6 sl7 ho hi
          go_simp
          exact hK _ _ (Below.refl _ _) hP
        · obtain rfl := Option.some.inj ho
          have e0 : v 37 = (.int .i64 l) := HD.out ⟨7, .data⟩ (by simp) rfl
          rw [e0] at q37
          clear q30 q31 q32 q33 q34 q35 q36 q38 q39 sl2 sl6 sl7 ho hi
          go_simp
          (with_reducible refine (HO2.out _).mono ?_)
          rintro e w2 ⟨u, rfl, hu, hB⟩
          exact hK _ _ hB hu
        · obtain rfl := Option.some.inj ho
          have h0 : IV wx (v 35) (g k) := HD.out ⟨5, .data⟩ (by simp) rfl
          have h1 : IV wx (v 38) l := HD.out ⟨8, .data⟩ (by simp) rfl
          clear q30 q31 q32 q33 q34 q36 q37 q39 sl2 sl6 sl7 ho hi
          go_simp
          (with_reducible refine (HT2k.out _ _ _ h0 h1).mono ?_)
          rintro e w2 ⟨u, rfl, hu, hB⟩
          exact hK _ _ hB hu
      · intro v wx o T' K ho hF hall hin hout hK
        obtain rfl := Option.some.inj ho
        have sl6 : T'[6]? = some (.pointer (some ⟨gp, 0, none⟩)) := (hout 6 (by decide)).trans rfl
        have q34 := hin 34 (by decide)
        clear hin hout ho
        have h0 : IV wx (v 34) (f (k + 1)) := hall 4 (by decide)
        have h1 : IV wx (v 39) (g (k + 1)) := hall 9 (by decide)
        obtain ⟨s5, n5, A5, m5, c5, e5, h5⟩ := h0
        rw [e5] at q34
        have HRR : Hid (PwF w gp gq t l (set3 wx gp (.int .i64 s5) (.bool n5) (.slice A5 m5 c5)) ∧ BI (set3 wx gp (.int .i64 s5) (.bool n5) (.slice A5 m5 c5)) gp (f (k + 1)) ∧ IV (set3 wx gp (.int .i64 s5) (.bool n5) (.slice A5 m5 c5)) (v 39) (g (k + 1))) := ⟨hF.fr.set_p _ _ _, ⟨s5, n5, A5, m5, c5, (hF.fr.wp.set _ _ _).1, h5.set_3 hF.fr.wp _ _ _⟩, h1.set_3 hF.fr.wp _ _ _⟩
        obtain ⟨⟨o0, o1, o2, o3, o4, o5⟩, o6, o7, o8, -⟩ := hF.fr.wp
        clear e5 h5 h1 hF hall
        go_simp
        exact hK _ HRR.out
      · intro v wx o T' K ho hM hin hout hK
        obtain rfl := Option.some.inj ho
        have sl7 : T'[7]? = some (.pointer (some ⟨gq, 0, none⟩)) := (hout 7 (by decide)).trans rfl
        have q39 := hin 39 (by decide)
        clear hin hout ho
        obtain ⟨hF, hbp, h1⟩ := hM
        obtain ⟨s5, n5, A5, m5, c5, e5, h5⟩ := h1
        rw [e5] at q39
        have HRR : Hid (PwS w gp gq t l (f (k + 1)) (g (k + 1)) (set3 wx gq (.int .i64 s5) (.bool n5) (.slice A5 m5 c5))) := ⟨hF.set_q _ _ _, hbp.set_3 (by have := hF.ord; omega) hF.wq _ _ _, ⟨s5, n5, A5, m5, c5, (hF.wq.set _ _ _).1, h5.set_3 hF.wq _ _ _⟩⟩
        obtain ⟨⟨o0, o1, o2, o3, o4, o5⟩, o6, o7, o8, -⟩ := hF.wq
        clear e5 h5 hbp hF
        go_simp
        exact hK _ HRR.out
      · intro v wx hE
        have HE := Lib.hid hE
        clear hE
        simp only [over, List.setIfInBounds_toArray, List.set_cons_zero, List.set_cons_succ]
        generalize v 30 = v30
        generalize v 31 = v31
        generalize v 32 = v32
        generalize v 33 = v33
        generalize v 34 = v34
        generalize v 35 = v35
        generalize v 36 = v36
        generalize v 37 = v37
        generalize v 38 = v38
        generalize v 39 = v39
        clear HT1k HT2k HO1 HO2 HO0 HV HR1 HR2 HBp HBq
        obtain ⟨s5, n5, A5, m5, c5, ⟨k0, k1, k2, -⟩, hR5⟩ := HE.out.bp
        have HR5 := Lib.hid hR5
        clear hR5
        go_wp2_with fail
        (with_reducible refine (HS1k.out _ _ _ _ _ _ HR5.out).mono ?_)
        rintro e w4 ⟨rfl, hB4⟩
        have HE4 := Lib.hid (HE.out.keep hB4)
        clear k0 k1 k2 hB4 HR5 HE
        obtain ⟨s6, n6, A6, m6, c6, ⟨j0, j1, j2, -⟩, hR6⟩ := HE4.out.bq
        have HR6 := Lib.hid hR6
        clear hR6
        go_wp2_with fail
        (with_reducible refine (HS2k.out _ _ _ _ _ _ HR6.out).mono ?_)
        rintro e w5 ⟨rfl, hB5⟩
        have HE5 := Lib.hid (HE4.out.keep hB5)
        have HF5 := Lib.hid HE5.out.fr
        clear j0 j1 j2 hB5 HR6 HE4 HS1k HS2k
        generalize u1 k = uu1
        generalize u2 k = uu2
        cases hc1 : b1 k with
        | false =>
          obtain ⟨rfl, rfl, rfl⟩ := HXk.out (Or.inl hc1)
          obtain ⟨⟨o1, o2, o3, o4⟩, o5, o6, -⟩ := HF5.out.wn
          go_wp2_with fail
          exact bodyPost_ret (v := .tuple #[.agg #[.int .i64 0, .int .i64 0], .int .i64 3]) (by simp [results, Try.results10, go_sem, o3, o4]) rfl ⟨rfl, (HF5.out.below.setCell (Nat.le_succ _) _).setCell (Nat.le_succ _) _⟩
        | true =>
          cases hc2 : b2 k with
          | false =>
            obtain ⟨rfl, rfl, rfl⟩ := HXk.out (Or.inr hc2)
            obtain ⟨⟨o1, o2, o3, o4⟩, o5, o6, -⟩ := HF5.out.wn
            go_wp2_with fail
            exact bodyPost_ret (v := .tuple #[.agg #[.int .i64 0, .int .i64 0], .int .i64 3]) (by simp [results, Try.results10, go_sem, o3, o4]) rfl ⟨rfl, (HF5.out.below.setCell (Nat.le_succ _) _).setCell (Nat.le_succ _) _⟩
          | true =>
            have HMn := Lib.hid (HMk.out hc1 hc2)
            go_wp2_with fail
            go_roundw
            case rel => exact ⟨k + 1, Lib.hid (Nat.succ_le_of_lt HLT.out), rfl, HMn, HE5⟩
            case measure =>
              have := HLT.out
              show N - ((k : Int) + 1).toNat < N - ((k : Int)).toNat
              omega
    · clear HT1 HT2 HS1 HS2 HM HX HO0 HO1 HO2 HV
      have ek : k = N := by have := hk.out; omega
      subst ek
      obtain ⟨k0, k1, k2, -⟩ := HBp.out
      obtain ⟨j0, j1, j2, -⟩ := HBq.out
      have HXV : Hid (RFV wr (.agg #[.int .i64 s1, .bool n1, .slice A1 m1 c1, .int .i64 s2, .bool n2, .slice A2 m2 c2]) x) := ⟨s1, n1, A1, m1, c1, s2, n2, A2, m2, c2, rfl, by rw [hx.out.1]; exact HR1.out, by rw [hx.out.2]; exact HR2.out⟩
      go_wp2_with fail
      (with_reducible refine (HN.out _ _ HXV.out).mono ?_)
      rintro e w4 ⟨rfl, hB4⟩
      have HF4 := Lib.hid (hP.out.fr.keep hB4)
      obtain ⟨⟨p1, p2, p3, p4⟩, p5, p6, -⟩ := HF4.out.wn
      clear k0 k1 k2 j0 j1 j2 hB4
      go_wp2_with fail
      exact bodyPost_ret (v := .tuple #[.agg #[.int .i64 r1, .int .i64 r2], .int .i64 r3]) (by simp [results, Try.results10, go_sem, p3, p4]) rfl ⟨rfl, (HF4.out.below.setCell (Nat.le_succ _) _).setCell (Nat.le_succ _) _⟩

end Go.Proofs.Ytjoanclnaeephaa

namespace Go.Proofs.Ytjoanclnaeephaa
open Go.RowKit

theorem smallV_val (z : Int) : smallV z = .tuple #[.int .i64 (if z.natAbs ≤ 1152921504606846976 then z else 0), .bool (decide (z.natAbs ≤ 1152921504606846976))] := by
  unfold smallV
  by_cases h : z.natAbs ≤ 1152921504606846976
  · rw [if_pos h, if_pos h, decide_eq_true h]
  · rw [if_neg h, if_neg h, decide_eq_false h]

set_option maxRecDepth 100000 in
set_option maxHeartbeats 20000000 in
theorem rpow_inv (t l n : Int) (w : World) (HV : Hid (∀ wx, Calls Try.prog 17 #[.agg #[.int .i64 t, .int .i64 l]] wx fun e w' => e = .returned (.bool false) ∧ Below wx.heap.size wx w')) :
    Calls Try.prog 10 #[.agg #[.int .i64 t, .int .i64 l], .int .i64 n] w (Rt 0 0 1 w) := by
  go_enter Try.func10, Try.ntmps10
  go_upto_region 1 with fail
  generalize hX : (w.alloc _).alloc _ = X
  have HB : Hid (Below w.heap.size w X ∧ B2n w.heap.size (.int .i64 t) (.int .i64 l) X ∧ Wr (w.heap.size + 1) 23 X) := by
    subst hX
    refine ⟨below_two w _ _, by simp [B2n, go_sem], Wr.new _ _ _ _ (by simp)⟩
  clear hX
  obtain ⟨k0, k1, -⟩ := HB.out.2.1
  go_wp2_with fail
  (with_reducible refine (HV.out _).mono ?_)
  rintro e w1 ⟨rfl, hB1⟩
  have HB1 := Lib.hid (HB.out.1.trans (hB1.mono HB.out.1.size))
  obtain ⟨⟨o1, o2, o3, o4⟩, o5, o6, -⟩ := HB.out.2.2.keep hB1
  clear k0 k1 hB1
  go_wp2_with fail
  exact bodyPost_ret (v := .tuple #[.agg #[.int .i64 0, .int .i64 0], .int .i64 1]) (by simp [results, Try.results10, go_sem, o3, o4]) rfl ⟨rfl, (HB1.out.setCell (Nat.le_succ _) _).setCell (Nat.le_succ _) _⟩

set_option maxRecDepth 100000 in
set_option maxHeartbeats 20000000 in
theorem rpow_neg (t l n : Int) (w : World) (g0 : decide (n < 0) = true) (HV : Hid (∀ wx, Calls Try.prog 17 #[.agg #[.int .i64 t, .int .i64 l]] wx fun e w' => e = .returned (.bool true) ∧ Below wx.heap.size wx w')) :
    Calls Try.prog 10 #[.agg #[.int .i64 t, .int .i64 l], .int .i64 n] w (Rt 0 0 6 w) := by
  go_enter Try.func10, Try.ntmps10
  go_upto_region 1 with fail
  generalize hX : (w.alloc _).alloc _ = X
  have HB : Hid (Below w.heap.size w X ∧ B2n w.heap.size (.int .i64 t) (.int .i64 l) X ∧ Wr (w.heap.size + 1) 23 X) := by
    subst hX
    refine ⟨below_two w _ _, by simp [B2n, go_sem], Wr.new _ _ _ _ (by simp)⟩
  clear hX
  obtain ⟨k0, k1, -⟩ := HB.out.2.1
  go_wp2_with fail
  (with_reducible refine (HV.out _).mono ?_)
  rintro e w1 ⟨rfl, hB1⟩
  have HB1 := Lib.hid (HB.out.1.trans (hB1.mono HB.out.1.size))
  obtain ⟨⟨o1, o2, o3, o4⟩, o5, o6, -⟩ := HB.out.2.2.keep hB1
  clear k0 k1 hB1
  go_wp2_with fail
  exact bodyPost_ret (v := .tuple #[.agg #[.int .i64 0, .int .i64 0], .int .i64 6]) (by simp [results, Try.results10, go_sem, o3, o4]) rfl ⟨rfl, (HB1.out.setCell (Nat.le_succ _) _).setCell (Nat.le_succ _) _⟩

set_option maxRecDepth 100000 in
set_option maxHeartbeats 20000000 in
theorem rpow_big (t l n : Int) (w : World) (g0 : decide (n < 0) = false) (g1 : decide (10000 < n) = true) (HV : Hid (∀ wx, Calls Try.prog 17 #[.agg #[.int .i64 t, .int .i64 l]] wx fun e w' => e = .returned (.bool true) ∧ Below wx.heap.size wx w')) :
    Calls Try.prog 10 #[.agg #[.int .i64 t, .int .i64 l], .int .i64 n] w (Rt 0 0 6 w) := by
  go_enter Try.func10, Try.ntmps10
  go_upto_region 1 with fail
  generalize hX : (w.alloc _).alloc _ = X
  have HB : Hid (Below w.heap.size w X ∧ B2n w.heap.size (.int .i64 t) (.int .i64 l) X ∧ Wr (w.heap.size + 1) 23 X) := by
    subst hX
    refine ⟨below_two w _ _, by simp [B2n, go_sem], Wr.new _ _ _ _ (by simp)⟩
  clear hX
  obtain ⟨k0, k1, -⟩ := HB.out.2.1
  go_wp2_with fail
  (with_reducible refine (HV.out _).mono ?_)
  rintro e w1 ⟨rfl, hB1⟩
  have HB1 := Lib.hid (HB.out.1.trans (hB1.mono HB.out.1.size))
  obtain ⟨⟨o1, o2, o3, o4⟩, o5, o6, -⟩ := HB.out.2.2.keep hB1
  clear k0 k1 hB1
  go_wp2_with fail
  exact bodyPost_ret (v := .tuple #[.agg #[.int .i64 0, .int .i64 0], .int .i64 6]) (by simp [results, Try.results10, go_sem, o3, o4]) rfl ⟨rfl, (HB1.out.setCell (Nat.le_succ _) _).setCell (Nat.le_succ _) _⟩

theorem pow_le_pow_of {a M : Nat} {k N : Nat} (hk : k ≤ N) (h : a ^ N ≤ M) (hM : 1 ≤ M) : a ^ k ≤ M := by
  rcases Nat.eq_zero_or_pos a with rfl | ha
  · rcases Nat.eq_zero_or_pos k with rfl | hk0
    · simpa using hM
    · rw [Nat.zero_pow hk0]; exact Nat.zero_le _
  · exact Nat.le_trans (Nat.pow_le_pow_right ha hk) h

theorem rpow_good (x : Rat) (N : Nat) (w : World) (hN : N ≤ 10000) (h : vld x.num (x.den : Int) = true) :
    Calls Try.prog 10 #[.agg #[.int .i64 x.num, .int .i64 (x.den : Int)], .int .i64 (N : Int)] w (Rt (outT (x ^ N)).1 (outT (x ^ N)).2.1 (outT (x ^ N)).2.2 w) := by
  obtain ⟨a1, a2⟩ := vld_le h
  have e3 : Bs ^ 3 = 1237940039285380274899124224 := by decide
  have bt : x.num.natAbs < Bs ^ 3 := by omega
  have bl : x.den < Bs ^ 3 := by omega
  have bd := den_bound x bl
  have hV : ∀ wx, Calls Try.prog 17 #[.agg #[.int .i64 x.num, .int .i64 (x.den : Int)]] wx fun e w' => e = .returned (.bool true) ∧ Below wx.heap.size wx w' := fun wx => by
    have := rvalid_any x.num (x.den : Int) wx
    rw [h] at this
    exact this
  have hpb : ∀ a : Nat, a < Bs ^ 3 → a ^ N < Bs ^ (3 * N + 1) := fun a ha => by
    have h1 : a ^ N ≤ (Bs ^ 3) ^ N := Nat.pow_le_pow_left (Nat.le_of_lt ha) N
    rw [← Nat.pow_mul] at h1
    exact Nat.lt_of_le_of_lt h1 (Nat.pow_lt_pow_right (by decide) (by omega))
  have hsm : ∀ (y : Int), y.natAbs < Bs ^ 3 → ∀ k, (y ^ k).natAbs ≤ 1152921504606846976 → ∀ wx s neg A n c, RI wx s neg A n c (y ^ (k + 1)) → Calls Try.prog 31 #[.agg #[.int .i64 s, .bool neg, .slice A n c]] wx fun e w' => e = .returned (.tuple #[.int .i64 (if (y ^ (k + 1)).natAbs ≤ 1152921504606846976 then y ^ (k + 1) else 0), .bool (decide ((y ^ (k + 1)).natAbs ≤ 1152921504606846976))]) ∧ Below wx.heap.size wx w' := by
    intro y hy k hk wx s neg A n c hR
    have hb : (y ^ (k + 1)).natAbs < Bs ^ (2 * 3) := by
      rw [Int.pow_succ]
      exact mul_bound (by omega) hy
    have := rsmall_any s neg A n c (y ^ (k + 1)) wx hR (by have := hR.len hb; omega)
    rw [smallV_val] at this
    exact this
  have htm : ∀ (y : Int), y.natAbs < Bs ^ 3 → ∀ k, (y ^ k).natAbs ≤ 1152921504606846976 → ∀ wx u u', IV wx u (y ^ k) → IV wx u' y → Calls Try.prog 30 #[u, u'] wx (RetV (.int (y ^ (k + 1))) wx) := by
    intro y hy k hk wx u u' k1 k2
    rw [Int.pow_succ]
    exact iv_times 3 k1 k2 (by decide) (by omega) hy
  have hfull : ∀ k, k < N → (decide ((x.num ^ (k + 1)).natAbs ≤ 1152921504606846976) = false ∨ decide (((x.den : Int) ^ (k + 1)).natAbs ≤ 1152921504606846976) = false) → (outT (x ^ N)).1 = 0 ∧ (outT (x ^ N)).2.1 = 0 ∧ (outT (x ^ N)).2.2 = 3 := by
    intro k hk hor
    have hnf : ¬ Fits (x ^ N) := by
      rintro ⟨f1, f2⟩
      rw [Rat.num_pow, Int.natAbs_pow, MaxN_eq] at f1
      rw [Rat.den_pow, MaxN_eq] at f2
      have k1 := pow_le_pow_of (show k + 1 ≤ N from hk) f1 (by decide)
      have k2 := pow_le_pow_of (show k + 1 ≤ N from hk) f2 (by decide)
      rcases hor with e | e
      · have := of_decide_eq_false e
        rw [Int.natAbs_pow] at this
        exact this k1
      · have := of_decide_eq_false e
        rw [Int.natAbs_pow, Int.natAbs_natCast] at this
        exact this k2
    unfold outT
    rw [if_neg hnf]
    exact ⟨rfl, rfl, rfl⟩
  exact rpow_walk x.num (x.den : Int) N _ _ _ (x ^ N) w (fun k => x.num ^ k) (fun k => (x.den : Int) ^ k) (fun k => if (x.num ^ (k + 1)).natAbs ≤ 1152921504606846976 then x.num ^ (k + 1) else 0) (fun k => if ((x.den : Int) ^ (k + 1)).natAbs ≤ 1152921504606846976 then (x.den : Int) ^ (k + 1) else 0)
    (fun k => decide ((x.num ^ (k + 1)).natAbs ≤ 1152921504606846976)) (fun k => decide (((x.den : Int) ^ (k + 1)).natAbs ≤ 1152921504606846976)) (fun k => (x.num ^ k).natAbs ≤ 1152921504606846976 ∧ ((x.den : Int) ^ k).natAbs ≤ 1152921504606846976)
    (Lib.hid hV) (decide_eq_false (by omega)) (decide_eq_false (by omega)) (Lib.hid fun wx => rof_any 1 wx (by decide) (by decide)) (Lib.hid fun wx => iv_of _ wx (by omega) (by omega)) (Lib.hid fun wx => iv_of _ wx (by omega) (by omega))
    (Lib.hid fun k _ hs => htm x.num bt k hs.1) (Lib.hid fun k _ hs => htm (x.den : Int) bd k hs.2) (Lib.hid fun k _ hs => hsm x.num bt k hs.1) (Lib.hid fun k _ hs => hsm (x.den : Int) bd k hs.2)
    (Lib.hid fun k _ _ e1 e2 => ⟨of_decide_eq_true e1, of_decide_eq_true e2⟩) (Lib.hid fun k hk _ => hfull k hk)
    (Lib.hid ⟨⟨by simp, by simp⟩, by simp, by simp⟩) (Lib.hid ⟨Rat.num_pow x N, by rw [Rat.den_pow, Int.natCast_pow]⟩)
    (Lib.hid fun wx u k => rv_numRt (3 * N + 1) k (by omega) ⟨by rw [Rat.num_pow, Int.natAbs_pow]; exact hpb _ bt, by rw [Rat.den_pow]; exact hpb _ bl⟩)

theorem rpow_any (t l n : Int) (w : World) : Calls Try.prog 10 #[.agg #[.int .i64 t, .int .i64 l], .int .i64 n] w (Rt (powT t l n).1 (powT t l n).2.1 (powT t l n).2.2 w) := by
  cases h : vld t l with
  | false =>
    rw [powT_bad h]
    exact rpow_inv t l n w (Lib.hid fun wx => by have := rvalid_any t l wx; rw [h] at this; exact this)
  | true =>
    have hV : Hid (∀ wx, Calls Try.prog 17 #[.agg #[.int .i64 t, .int .i64 l]] wx fun e w' => e = .returned (.bool true) ∧ Below wx.heap.size wx w') := fun wx => by have := rvalid_any t l wx; rw [h] at this; exact this
    by_cases h0 : n < 0
    · rw [powT_range h (Or.inl h0)]
      exact rpow_neg t l n w (decide_eq_true h0) hV
    · by_cases h1 : 10000 < n
      · rw [powT_range h (Or.inr h1)]
        exact rpow_big t l n w (decide_eq_false h0) (decide_eq_true h1) hV
      · obtain ⟨x, rfl, rfl, -⟩ := vld_rat h
        obtain ⟨N, rfl⟩ : ∃ N : Nat, n = (N : Int) := ⟨n.toNat, by omega⟩
        have e : powT x.num (x.den : Int) (N : Int) = outT (x ^ N) := by
          unfold powT
          rw [if_neg (by rw [h]; decide), if_neg (by omega), fr_of, Int.toNat_natCast]
        rw [e]
        exact rpow_good x N w (by omega) h

end Go.Proofs.Ytjoanclnaeephaa
