/- Numbers that are valid, of the reference. -/
import Derived.Test.YtmfnpipmbpnfbaaGreatDoorF25
import Derived.Test.YtmfnpipmbpnfbaaGreatDoorF23
import Derived.Deep.AppendLies

set_option maxRecDepth 100000
set_option maxHeartbeats 40000000
namespace Go.Proofs.YtmfnpipmbpnfbaaGreatDoor
open Go.RowKit
structure FB2 (w : World) (a b : Value) (wx : World) : Prop where
  below : Below w.heap.size w wx
  ba : B2n w.heap.size a b wx
theorem FB2.keep {w : World} {a b : Value} (wx wy : World) (h : FB2 w a b wx) (hb : Below wx.heap.size wx wy) : FB2 w a b wy :=
  ⟨h.below.trans (hb.mono h.below.size), h.ba.keep hb⟩
theorem FB2.new (w : World) (a b : Value) : FB2 w a b (w.alloc (.cells #[a, b] 62)) :=
  ⟨(Below.refl _ _).alloc (Nat.le_refl _) _, by simp [B2n, go_sem]⟩
theorem rvalid_bad0 (t l : Int) (w : World) (g0 : decide (l < 1) = true) : Calls Tryz.prog 95 #[.agg #[.int .i64 t, .int .i64 l]] w fun e w' => e = .returned (.bool false) ∧ Below w.heap.size w w' := by
  go_enter Tryz.func95, Tryz.ntmps95
  go_wp2_with fail
  go_ret
  exact ⟨rfl, below_alloc _ _⟩
theorem rvalid_bad1 (t l : Int) (w : World) (g0 : decide (l < 1) = false) (g1 : decide (1152921504606846976 < l) = true) : Calls Tryz.prog 95 #[.agg #[.int .i64 t, .int .i64 l]] w fun e w' => e = .returned (.bool false) ∧ Below w.heap.size w w' := by
  go_enter Tryz.func95, Tryz.ntmps95
  go_wp2_with fail
  go_ret
  exact ⟨rfl, below_alloc _ _⟩
theorem rvalid_bad2 (t l : Int) (w : World) (g0 : decide (l < 1) = false) (g1 : decide (1152921504606846976 < l) = false) (g2 : decide (1152921504606846976 < t) = true) : Calls Tryz.prog 95 #[.agg #[.int .i64 t, .int .i64 l]] w fun e w' => e = .returned (.bool false) ∧ Below w.heap.size w w' := by
  go_enter Tryz.func95, Tryz.ntmps95
  go_wp2_with fail
  go_ret
  exact ⟨rfl, below_alloc _ _⟩
theorem rvalid_bad3 (t l : Int) (w : World) (g0 : decide (l < 1) = false) (g1 : decide (1152921504606846976 < l) = false) (g2 : decide (1152921504606846976 < t) = false) (g3 : decide (t < -1152921504606846976) = true) : Calls Tryz.prog 95 #[.agg #[.int .i64 t, .int .i64 l]] w fun e w' => e = .returned (.bool false) ∧ Below w.heap.size w w' := by
  go_enter Tryz.func95, Tryz.ntmps95
  go_wp2_with fail
  go_ret
  exact ⟨rfl, below_alloc _ _⟩
theorem rvalid_good (t l : Int) (w : World) (hg : (1 ≤ l ∧ l ≤ 1152921504606846976) ∧ -1152921504606846976 ≤ t ∧ t ≤ 1152921504606846976) (g0 : decide (l < 1) = false) (g1 : decide (1152921504606846976 < l) = false) (g2 : decide (1152921504606846976 < t) = false) (g3 : decide (t < -1152921504606846976) = false) : Calls Tryz.prog 95 #[.agg #[.int .i64 t, .int .i64 l]] w fun e w' => e = .returned (.bool (sgnI ((Nat.gcd t.natAbs l.natAbs : Nat) - 1) == 0)) ∧ Below w.heap.size w w' := by
  have b1 : (1 : Int).natAbs < Bs ^ 3 := by decide
  have e3 : Bs ^ 3 = 1237940039285380274899124224 := by decide
  have bt : t.natAbs < Bs ^ 3 := by omega
  have bl : l.natAbs < Bs ^ 3 := by omega
  have bg : ((Nat.gcd t.natAbs l.natAbs : Nat) : Int).natAbs < Bs ^ 3 := by
    have : Nat.gcd t.natAbs l.natAbs ≤ l.natAbs := Nat.le_of_dvd (by omega) (Nat.gcd_dvd_right _ _)
    rw [Int.natAbs_natCast]
    omega
  have HO1 : Hid (∀ wx, Calls Tryz.prog 70 #[.int .i64 t] wx (RetV (.int t) wx)) := fun wx => iv_of t wx (by omega) (by omega)
  have HO2 : Hid (∀ wx, Calls Tryz.prog 70 #[.int .i64 l] wx (RetV (.int l) wx)) := fun wx => iv_of l wx (by omega) (by omega)
  have HO3 : Hid (∀ wx, Calls Tryz.prog 70 #[.int .i64 1] wx (RetV (.int 1) wx)) := fun wx => iv_of 1 wx (by decide) (by decide)
  have HG : Hid (∀ wx u u', IV wx u t → IV wx u' l → Calls Tryz.prog 128 #[u, u'] wx (RetV (.int (Nat.gcd t.natAbs l.natAbs : Nat)) wx)) := fun wx u u' k1 k2 => iv_gcd 3 k1 k2 (by decide) bt bl
  have HC : Hid (∀ wx u u', IV wx u (Nat.gcd t.natAbs l.natAbs : Nat) → IV wx u' 1 → Calls Tryz.prog 71 #[u, u'] wx (RetV (.val (.int .i64 (sgnI ((Nat.gcd t.natAbs l.natAbs : Nat) - 1)))) wx)) := fun wx u u' k1 k2 => iv_compare 3 k1 k2 (by decide) bg b1
  clear b1 e3 bt bl bg hg
  generalize sgnI ((Nat.gcd t.natAbs l.natAbs : Nat) - 1) = q at HC ⊢
  generalize ((Nat.gcd t.natAbs l.natAbs : Nat) : Int) = G at HG HC
  go_enter Tryz.func95, Tryz.ntmps95
  go_upto_region 3 with fail
  generalize hX : w.alloc _ = X
  have HX : Hid (FB2 w (.int .i64 t) (.int .i64 l) X) := by
    subst hX
    exact FB2.new w _ _
  clear hX g0 g1 g2 g3
  refine wp_region_flow 11 [21, 22, 23, 24, 25, 26, 27, 28, 29, 30, 2] (fun i => if i = 10 then 2 else 21 + i) (FB2 w (.int .i64 t) (.int .i64 l)) (Spl [.val (.pointer (some ⟨w.heap.size, 0, none⟩)), .val (.int .i64 t), .int t, .val (.pointer (some ⟨w.heap.size, 1, none⟩)), .val (.int .i64 l), .int l, .int G, .int 1, .val (.int .i64 q), .val (.bool (q == 0)), .val (.bool (q == 0))]) (by kernel_rfl) (by kernel_rfl) (by kernel_rfl) (by kernel_rfl) (fun i j hi hj h => by have h : (if i = 10 then 2 else 21 + i) = (if j = 10 then 2 else 21 + j) := h; split at h <;> split at h <;> omega) (by decide) FB2.keep Spl.keep ?_ ?_ ?_
  · exact HX.out.keep _ _ (Below.drew (Below.refl _ _))
  · intro i v wx o T' K ho hF hdep hin hout hK
    have hi : i < 11 := (Array.getElem?_eq_some_iff.1 ho).1
    have HF := Lib.hid hF
    have HD := Lib.hid hdep
    clear hF hdep
    rcases (by omega : i = 0 ∨ i = 1 ∨ i = 2 ∨ i = 3 ∨ i = 4 ∨ i = 5 ∨ i = 6 ∨ i = 7 ∨ i = 8 ∨ i = 9 ∨ i = 10) with rfl | rfl | rfl | rfl | rfl | rfl | rfl | rfl | rfl | rfl | rfl
    · obtain rfl := Option.some.inj ho
      have sl1 : T'[1]? = some (.pointer (some ⟨w.heap.size, 0, none⟩)) := (hout 1 (by decide)).trans rfl
      clear hin hout ho hi
      go_simp
      exact hK _ _ (Below.refl _ _) rfl
    · obtain rfl := Option.some.inj ho
      have q21 := hin 21 (by decide)
      have e1 : v 21 = (.pointer (some ⟨w.heap.size, 0, none⟩)) := HD.out ⟨0, .data⟩ (by simp) rfl
      rw [e1] at q21
      obtain ⟨k0, k1, k2⟩ := HF.out.ba
      have hP := (rfl : Value.int .i64 t = .int .i64 t)
      clear hin hout ho hi
      go_simp
      exact hK _ _ (Below.refl _ _) hP
    · obtain rfl := Option.some.inj ho
      have q22 := hin 22 (by decide)
      have e0 : v 22 = (.int .i64 t) := HD.out ⟨1, .data⟩ (by simp) rfl
      rw [e0] at q22
      clear hin hout ho hi
      go_simp
      (with_reducible refine (HO1.out _).mono ?_)
      rintro e w2 ⟨u, rfl, hu, hB⟩
      exact hK _ _ hB hu
    · obtain rfl := Option.some.inj ho
      have sl1 : T'[1]? = some (.pointer (some ⟨w.heap.size, 0, none⟩)) := (hout 1 (by decide)).trans rfl
      clear hin hout ho hi
      go_simp
      exact hK _ _ (Below.refl _ _) rfl
    · obtain rfl := Option.some.inj ho
      have q24 := hin 24 (by decide)
      have e1 : v 24 = (.pointer (some ⟨w.heap.size, 1, none⟩)) := HD.out ⟨3, .data⟩ (by simp) rfl
      rw [e1] at q24
      obtain ⟨k0, k1, k2⟩ := HF.out.ba
      have hP := (rfl : Value.int .i64 l = .int .i64 l)
      clear hin hout ho hi
      go_simp
      exact hK _ _ (Below.refl _ _) hP
    · obtain rfl := Option.some.inj ho
      have q25 := hin 25 (by decide)
      have e0 : v 25 = (.int .i64 l) := HD.out ⟨4, .data⟩ (by simp) rfl
      rw [e0] at q25
      clear hin hout ho hi
      go_simp
      (with_reducible refine (HO2.out _).mono ?_)
      rintro e w2 ⟨u, rfl, hu, hB⟩
      exact hK _ _ hB hu
    · obtain rfl := Option.some.inj ho
      have q23 := hin 23 (by decide)
      have q26 := hin 26 (by decide)
      have h0 : IV wx (v 23) t := HD.out ⟨2, .data⟩ (by simp) rfl
      have h1 : IV wx (v 26) l := HD.out ⟨5, .data⟩ (by simp) rfl
      clear hin hout ho hi
      go_simp
      (with_reducible refine (HG.out _ _ _ h0 h1).mono ?_)
      rintro e w2 ⟨u, rfl, hu, hB⟩
      exact hK _ _ hB hu
    · obtain rfl := Option.some.inj ho
      clear hin hout ho hi
      go_simp
      (with_reducible refine (HO3.out _).mono ?_)
      rintro e w2 ⟨u, rfl, hu, hB⟩
      exact hK _ _ hB hu
    · obtain rfl := Option.some.inj ho
      have q27 := hin 27 (by decide)
      have q28 := hin 28 (by decide)
      have h0 : IV wx (v 27) G := HD.out ⟨6, .data⟩ (by simp) rfl
      have h1 : IV wx (v 28) 1 := HD.out ⟨7, .data⟩ (by simp) rfl
      clear hin hout ho hi
      go_simp
      (with_reducible refine (HC.out _ _ _ h0 h1).mono ?_)
      rintro e w2 ⟨u, rfl, hu, hB⟩
      exact hK _ _ hB hu
    · obtain rfl := Option.some.inj ho
      have q29 := hin 29 (by decide)
      have e0 : v 29 = (.int .i64 q) := HD.out ⟨8, .data⟩ (by simp) rfl
      rw [e0] at q29
      clear hin hout ho hi
      go_simp
      exact hK _ _ (Below.refl _ _) rfl
    · obtain rfl := Option.some.inj ho
      have q30 := hin 30 (by decide)
      have e0 : v 30 = (.bool (q == 0)) := HD.out ⟨9, .data⟩ (by simp) rfl
      rw [e0] at q30
      clear hin hout ho hi
      go_simp
      exact hK _ _ (Below.refl _ _) rfl
  · intro v wx hF hall
    have h2 : v 2 = .bool (q == 0) := hall 10 (by decide)
    have HB := Lib.hid hF.below
    clear hF hall
    simp only [over, List.setIfInBounds_toArray, List.set_cons_zero, List.set_cons_succ]
    rw [h2]
    generalize v 21 = v21
    generalize v 22 = v22
    generalize v 23 = v23
    generalize v 24 = v24
    generalize v 25 = v25
    generalize v 26 = v26
    generalize v 27 = v27
    generalize v 28 = v28
    generalize v 29 = v29
    generalize v 30 = v30
    go_wp2_with fail
    go_ret
    exact ⟨rfl, HB.out⟩
theorem rvalid_any (t l : Int) (w : World) : Calls Tryz.prog 95 #[.agg #[.int .i64 t, .int .i64 l]] w fun e w' => e = .returned (.bool (vld t l)) ∧ Below w.heap.size w w' := by
  have HV : vld t l = (!(decide (l < 1)) && !(decide (1152921504606846976 < l)) && !(decide (t < -1152921504606846976)) && !(decide (1152921504606846976 < t)) && (Nat.gcd t.natAbs l.toNat == 1)) := rfl
  cases g0 : decide (l < 1) with
  | true =>
    rw [HV, g0]
    exact rvalid_bad0 t l w g0
  | false =>
    cases g1 : decide (1152921504606846976 < l) with
    | true =>
      rw [HV, g0, g1]
      exact rvalid_bad1 t l w g0 g1
    | false =>
      cases g2 : decide (1152921504606846976 < t) with
      | true =>
        have e : vld t l = false := by rw [HV, g0, g1, g2]; cases decide (t < -1152921504606846976) <;> rfl
        rw [e]
        exact rvalid_bad2 t l w g0 g1 g2
      | false =>
        cases g3 : decide (t < -1152921504606846976) with
        | true =>
          rw [HV, g0, g1, g2, g3]
          exact rvalid_bad3 t l w g0 g1 g2 g3
        | false =>
          have h0 := of_decide_eq_false g0
          have h1 := of_decide_eq_false g1
          have h2 := of_decide_eq_false g2
          have h3 := of_decide_eq_false g3
          have H := rvalid_good t l w (by omega) g0 g1 g2 g3
          have el : l.toNat = l.natAbs := by omega
          have e : vld t l = (sgnI ((Nat.gcd t.natAbs l.natAbs : Nat) - 1) == 0) := by
            rw [HV, g0, g1, g2, g3, el]
            have hp : 0 < Nat.gcd t.natAbs l.natAbs := Nat.gcd_pos_of_pos_right _ (by omega)
            generalize Nat.gcd t.natAbs l.natAbs = G at hp
            unfold sgnI
            by_cases hG : G = 1
            · subst hG; rfl
            · rw [if_neg (show ¬ ((G : Int) - 1 < 0) by omega), if_neg (show ¬ ((G : Int) - 1 = 0) by omega)]
              have : (G == 1) = false := beq_eq_false_iff_ne.2 hG
              rw [this]
              rfl
          rw [e]
          exact H
def Lnum (w : World) (A : Option Addr) (n : Nat) (t l : Nat → Int) : Prop :=
  0 < n → ∃ b off, A = some ⟨b, off, none⟩ ∧ b < w.heap.size ∧ ∀ i, i < n → w.cell? ⟨b, off + i * 2, none⟩ = some (.int .i64 (t i)) ∧ w.cell? ⟨b, off + i * 2 + 1, none⟩ = some (.int .i64 (l i))
theorem Lnum.keep {w w' : World} {A : Option Addr} {n : Nat} {t l : Nat → Int} (h : Lnum w A n t l) (hb : Below w.heap.size w w') : Lnum w' A n t l := by
  intro hn
  obtain ⟨b, off, hA, hlt, hc⟩ := h hn
  exact ⟨b, off, hA, Nat.lt_of_lt_of_le hlt hb.size, fun i hi => ⟨(hb.cell (p := ⟨b, off + i * 2, none⟩) hlt).trans (hc i hi).1, (hb.cell (p := ⟨b, off + i * 2 + 1, none⟩) hlt).trans (hc i hi).2⟩⟩
def allB (p : Nat → Bool) (n : Nat) : Bool := (List.range n).all p
theorem allB_true {p : Nat → Bool} {n : Nat} (h : ∀ i, i < n → p i = true) : allB p n = true := List.all_eq_true.2 fun i hi => h i (List.mem_range.1 hi)
theorem allB_false {p : Nat → Bool} {n i : Nat} (hi : i < n) (h : p i = false) : allB p n = false := by
  cases e : allB p n with
  | false => rfl
  | true =>
    have := List.all_eq_true.1 e i (List.mem_range.2 hi)
    rw [h] at this
    exact this.symm
theorem allB_get {p : Nat → Bool} {n i : Nat} (h : allB p n = true) (hi : i < n) : p i = true := List.all_eq_true.1 h i (List.mem_range.2 hi)
theorem allValid_any (A : Option Addr) (n c : Nat) (t l : Nat → Int) (w : World) (hn : n ≤ 1000000000) (hA : Lnum w A n t l) :
    Calls Tryz.prog 150 #[.slice A n c] w fun e w' => e = .returned (.bool (allB (fun i => vld (t i) (l i)) n)) ∧ Below w.heap.size w w' := by
  have HA := Lib.hid hA
  clear hA
  go_enter Tryz.func150, Tryz.ntmps150
  go_wp2_with fail
  go_loopw [7] (fun i wr => ∃ k : Nat, Hid (k ≤ n) ∧ i = .int .i64 (k : Int) ∧ Hid (∀ i, i < k → (vld (t i) (l i)) = true) ∧ Hid (Below w.heap.size w wr)) (fun i _ => n - (intOf i).toNat)
  case atStart => exact ⟨0, Nat.zero_le _, rfl, Lib.hid (fun i hi => absurd hi (by omega)), Lib.hid (Below.refl _ _)⟩
  case round =>
    obtain ⟨k, hk, rfl, hv, hB⟩ := hrel
    by_cases hlt : k < n
    · obtain ⟨b, off, rfl, hb, hcells⟩ := HA.out.keep hB.out (by omega)
      obtain ⟨hc0, hc1⟩ := hcells k hlt
      have hlt' : (k : Int) < (n : Int) := by omega
      clear hcells
      generalize htk : t k = tk at hc0
      generalize hlk : l k = lk at hc1
      go_upto_region 4 with fail
      generalize hY : wr.alloc _ = Y
      have HY : Hid (Below w.heap.size w Y) := by
        subst hY
        exact hB.out.alloc hB.out.size _
      obtain ⟨j0, j1⟩ : Y.cell? ⟨wr.heap.size, 0, none⟩ = some (.int .i64 tk) ∧ Y.cell? ⟨wr.heap.size, 1, none⟩ = some (.int .i64 lk) := by
        subst hY
        simp [go_sem]
      clear hY hc0 hc1 hb
      go_wp2_with fail
      (with_reducible refine (valid_any tk lk _).mono ?_)
      rintro e w1 ⟨rfl, hB1⟩
      have HB1 := Lib.hid (HY.out.trans (hB1.mono HY.out.size))
      clear j0 j1 hB1 HY
      cases hv1 : vld tk lk with
      | false =>
        have HE : Hid (allB (fun i => vld (t i) (l i)) n = false) := allB_false hlt (by rw [htk, hlk]; exact hv1)
        go_wp2_with fail
        go_ret
        exact ⟨by rw [HE.out]; rfl, HB1.out⟩
      | true =>
        have HV : Hid (∀ i, i < k + 1 → vld (t i) (l i) = true) := fun i hi => by
          by_cases e : i = k
          · rw [e, htk, hlk]; exact hv1
          · exact hv.out i (by omega)
        clear hv htk hlk hv1
        go_wp2_with fail
        go_roundw
        case rel => exact ⟨k + 1, Lib.hid (by omega), by rw [show ((k + 1 : Nat) : Int) = (k : Int) + 1 from by omega], HV, HB1⟩
        case measure => simp [intOf]; omega
    · have hke : k = n := by have := hk.out; omega
      have HE : Hid (allB (fun i => vld (t i) (l i)) n = true) := allB_true (by rw [← hke]; exact hv.out)
      have hlt' : ¬ (k : Int) < (n : Int) := by omega
      clear hke hv
      go_wp2_with fail
      go_ret
      exact ⟨by rw [HE.out]; rfl, hB.out⟩
end Go.Proofs.YtmfnpipmbpnfbaaGreatDoor
namespace Go.Proofs.YtmfnpipmbpnfbaaGreatDoor
def sumQ (f : Nat → Rat) : Nat → Rat
  | 0 => 0
  | n + 1 => sumQ f n + f n
theorem sumQ_zero (f : Nat → Rat) : sumQ f 0 = 0 := rfl
theorem sumQ_succ (f : Nat → Rat) (n : Nat) : sumQ f (n + 1) = sumQ f n + f n := rfl
theorem sumQ_one (f : Nat → Rat) : sumQ f 1 = f 0 := by rw [sumQ_succ, sumQ_zero, Rat.zero_add]
theorem sumQ_split (f : Nat → Rat) (a b : Nat) : sumQ f (a + b) = sumQ f a + sumQ (fun i => f (a + i)) b := by
  induction b with
  | zero => rw [sumQ_zero, Rat.add_zero]; rfl
  | succ b ih => rw [← Nat.add_assoc, sumQ_succ, ih, sumQ_succ, Rat.add_assoc]
theorem sumQ_congr {f g : Nat → Rat} {n : Nat} (h : ∀ i, i < n → f i = g i) : sumQ f n = sumQ g n := by
  induction n with
  | zero => rfl
  | succ n ih => rw [sumQ_succ, sumQ_succ, ih (fun i hi => h i (by omega)), h n (by omega)]
def Bd (x : Rat) (M D : Nat) : Prop := x.num.natAbs ≤ M ∧ x.den ≤ D
theorem Bd.add {x y : Rat} {M D M' D' : Nat} (h : Bd x M D) (h' : Bd y M' D') : Bd (x + y) (M * D' + M' * D) (D * D') := by
  have e : x + y = Rat.normalize (x.num * y.den + y.num * x.den) (x.den * y.den) (Nat.mul_ne_zero x.den_nz y.den_nz) := Rat.add_def x y
  obtain ⟨b1, b2⟩ := norm_le (x.num * y.den + y.num * x.den) (x.den * y.den) (Nat.mul_ne_zero x.den_nz y.den_nz)
  rw [← e] at b1 b2
  obtain ⟨h1, h2⟩ := h
  obtain ⟨h3, h4⟩ := h'
  constructor
  · refine Nat.le_trans b1 (Nat.le_trans (Int.natAbs_add_le _ _) ?_)
    rw [Int.natAbs_mul, Int.natAbs_mul, Int.natAbs_natCast, Int.natAbs_natCast]
    exact Nat.add_le_add (Nat.mul_le_mul h1 h4) (Nat.mul_le_mul h3 h2)
  · exact Nat.le_trans b2 (Nat.mul_le_mul h2 h4)
theorem Bd.mul {x y : Rat} {M D M' D' : Nat} (h : Bd x M D) (h' : Bd y M' D') : Bd (x * y) (M * M') (D * D') := by
  have e : x * y = Rat.normalize (x.num * y.num) (x.den * y.den) (Nat.mul_ne_zero x.den_nz y.den_nz) := Rat.mul_def x y
  obtain ⟨b1, b2⟩ := norm_le (x.num * y.num) (x.den * y.den) (Nat.mul_ne_zero x.den_nz y.den_nz)
  rw [← e] at b1 b2
  obtain ⟨h1, h2⟩ := h
  obtain ⟨h3, h4⟩ := h'
  constructor
  · refine Nat.le_trans b1 ?_
    rw [Int.natAbs_mul]
    exact Nat.mul_le_mul h1 h3
  · exact Nat.le_trans b2 (Nat.mul_le_mul h2 h4)
theorem Bd.sum {f : Nat → Rat} {n P : Nat} (h : ∀ i, i < n → Bd (f i) P P) : Bd (sumQ f n) (n * P ^ n) (P ^ n) := by
  induction n with
  | zero => exact ⟨by simp [sumQ_zero], by simp [sumQ_zero]⟩
  | succ n ih =>
    have := (ih fun i hi => h i (by omega)).add (h n (by omega))
    rw [sumQ_succ]
    have e : n * P ^ n * P + P * P ^ n = (n + 1) * P ^ (n + 1) := by
      rw [Nat.pow_succ, Nat.mul_comm P (P ^ n), Nat.mul_assoc, ← Nat.add_one_mul]
    rw [e, ← Nat.pow_succ] at this
    exact this
theorem Bd.prod {x y : Rat} (h : vld x.num (x.den : Int) = true) (h' : vld y.num (y.den : Int) = true) : Bd (x * y) (2 ^ 120) (2 ^ 120) := by
  obtain ⟨h1, h2⟩ := vld_le h
  obtain ⟨h3, h4⟩ := vld_le h'
  exact Bd.mul (M := 2 ^ 60) (D := 2 ^ 60) (M' := 2 ^ 60) (D' := 2 ^ 60) ⟨h1, h2⟩ ⟨h3, h4⟩
theorem W_mul_pow (k : Nat) : W * W ^ k = W ^ (k + 1) := by rw [Nat.mul_comm]; exact (Nat.pow_succ W k).symm
theorem W_pow_lt {a b : Nat} (h : a < b) : W ^ a < W ^ b := Nat.pow_lt_pow_right (by rw [W_eq]; decide) h
theorem W4_ge : 2 ^ 120 ≤ W ^ 4 := by rw [W_eq]; decide
theorem Bd.dot_gen {f : Nat → Rat} {n k : Nat} (hn : n ≤ 200) (hk : 4 * n ≤ k) (h : ∀ i, i < n → Bd (f i) (2 ^ 120) (2 ^ 120)) : Bd (sumQ f n) (W ^ (k + 1)) (W ^ (k + 1)) := by
  have b := Bd.sum (f := f) (n := n) (P := W ^ 4) fun i hi => ⟨Nat.le_trans (h i hi).1 W4_ge, Nat.le_trans (h i hi).2 W4_ge⟩
  have e : (W ^ 4) ^ n = W ^ (4 * n) := by rw [← Nat.pow_mul]
  have h1 : W ^ (4 * n) ≤ W ^ k := pow_le hk
  have h2 : n * W ^ (4 * n) ≤ W * W ^ k := Nat.mul_le_mul (by rw [W_eq]; omega) h1
  rw [e] at b
  rw [W_mul_pow] at h2
  exact ⟨Nat.le_trans b.1 h2, Nat.le_trans b.2 (Nat.le_trans h1 (pow_le (by omega)))⟩
theorem Bd.long {x : Rat} {k : Nat} (hk : k < 1000) (h : Bd x (W ^ k) (W ^ k)) : x.num.natAbs < W ^ 1000 ∧ x.den < W ^ 1000 :=
  ⟨Nat.lt_of_le_of_lt h.1 (@W_pow_lt k 1000 hk), Nat.lt_of_le_of_lt h.2 (@W_pow_lt k 1000 hk)⟩
theorem Bd.dot {f : Nat → Rat} {n : Nat} (hn : n ≤ 200) (h : ∀ i, i < n → Bd (f i) (2 ^ 120) (2 ^ 120)) : (sumQ f n).num.natAbs < W ^ 1000 ∧ (sumQ f n).den < W ^ 1000 := by
  have b := @Bd.dot_gen f n (4 * n) hn (Nat.le_refl _) h
  have e : 4 * n + 1 < 1000 := by clear b; omega
  exact @Bd.long (sumQ f n) (4 * n + 1) e b
end Go.Proofs.YtmfnpipmbpnfbaaGreatDoor
namespace Go.Proofs.YtmfnpipmbpnfbaaGreatDoor
open Go.RowKit
structure ChV where
  t : Int
  l : Int
  A : Option Addr
  n : Nat
  c : Nat
  tw : Nat → Int
  ct : Nat → Int
  cl : Nat → Int
structure StV where
  ow : Int
  mrk : Int
  A : Option Addr
  n : Nat
  c : Nat
  ch : Nat → ChV
def Rows3 (w : World) (A : Option Addr) (n : Nat) (p q r : Nat → Value) : Prop :=
  0 < n → ∃ b off, A = some ⟨b, off, none⟩ ∧ b < w.heap.size ∧ ∀ i, i < n → w.cell? ⟨b, off + i * 3, none⟩ = some (p i) ∧ w.cell? ⟨b, off + i * 3 + 1, none⟩ = some (q i) ∧ w.cell? ⟨b, off + i * 3 + 2, none⟩ = some (r i)
theorem Rows3.keep {w w' : World} {A : Option Addr} {n : Nat} {p q r : Nat → Value} (H : Rows3 w A n p q r) (hb : Below w.heap.size w w') : Rows3 w' A n p q r := by
  intro hn
  obtain ⟨b, off, hA, hlt, hc⟩ := H hn
  exact ⟨b, off, hA, Nat.lt_of_lt_of_le hlt hb.size, fun i hi => ⟨(hb.cell (p := ⟨b, off + i * 3, none⟩) hlt).trans (hc i hi).1, (hb.cell (p := ⟨b, off + i * 3 + 1, none⟩) hlt).trans (hc i hi).2.1, (hb.cell (p := ⟨b, off + i * 3 + 2, none⟩) hlt).trans (hc i hi).2.2⟩⟩
def Lbr (w : World) (A : Option Addr) (n : Nat) (tw ct cl : Nat → Int) : Prop := Rows3 w A n (fun i => .int .i64 (tw i)) (fun i => .int .i64 (ct i)) (fun i => .int .i64 (cl i))
theorem Lbr.keep {w w' : World} {A : Option Addr} {n : Nat} {tw ct cl : Nat → Int} (H : Lbr w A n tw ct cl) (hb : Below w.heap.size w w') : Lbr w' A n tw ct cl := Rows3.keep H hb
def Lch (w : World) (A : Option Addr) (n : Nat) (ch : Nat → ChV) : Prop :=
  Rows3 w A n (fun i => .int .i64 (ch i).t) (fun i => .int .i64 (ch i).l) (fun i => .slice (ch i).A (ch i).n (ch i).c) ∧ ∀ i, i < n → Lbr w (ch i).A (ch i).n (ch i).tw (ch i).ct (ch i).cl
theorem Lch.keep {w w' : World} {A : Option Addr} {n : Nat} {ch : Nat → ChV} (H : Lch w A n ch) (hb : Below w.heap.size w w') : Lch w' A n ch := ⟨H.1.keep hb, fun i hi => (H.2 i hi).keep hb⟩
def Lst (w : World) (A : Option Addr) (n : Nat) (st : Nat → StV) : Prop :=
  Rows3 w A n (fun i => .int .i64 (st i).ow) (fun i => .int .i64 (st i).mrk) (fun i => .slice (st i).A (st i).n (st i).c) ∧ ∀ i, i < n → Lch w (st i).A (st i).n (st i).ch
theorem Lst.keep {w w' : World} {A : Option Addr} {n : Nat} {st : Nat → StV} (H : Lst w A n st) (hb : Below w.heap.size w w') : Lst w' A n st := ⟨H.1.keep hb, fun i hi => (H.2 i hi).keep hb⟩
def brB (ns : Nat) (tw ct cl : Nat → Int) (i : Nat) : Bool := !(decide (tw i < 0)) && !(decide ((ns : Int) ≤ tw i)) && !(decide (0 < i) && decide (tw i ≤ tw (i - 1))) && vld (ct i) (cl i) && !(decide (ct i ≤ 0))
def chSum (ct cl : Nat → Int) (k : Nat) : Rat := sumQ (fun i => fr (ct i) (cl i)) k
def bsB (ns n : Nat) (tw ct cl : Nat → Int) : Bool := !(decide ((n : Int) < 1)) && !(decide ((8 : Int) < (n : Int))) && allB (brB ns tw ct cl) n && decide (chSum ct cl n = 1)
def chB (ns : Nat) (h : ChV) : Bool := vld h.t h.l && bsB ns h.n h.tw h.ct h.cl
def stB (ns : Nat) (s : StV) : Bool := !(decide (s.ow < 0)) && !(decide (1 < s.ow)) && !(decide (s.mrk < 0)) && !(decide (63 < s.mrk)) && !(decide ((s.n : Int) < 1)) && !(decide ((8 : Int) < (s.n : Int))) && allB (fun j => chB ns (s.ch j)) s.n
def moB (n : Nat) (st : Nat → StV) : Bool := !(decide ((n : Int) < 1)) && !(decide ((40 : Int) < (n : Int))) && allB (fun i => stB n (st i)) n
theorem bsB_n {ns n : Nat} {tw ct cl : Nat → Int} (H : bsB ns n tw ct cl = true) : 1 ≤ n ∧ n ≤ 8 := by
  simp only [bsB, Bool.and_eq_true, Bool.not_eq_true', decide_eq_false_iff_not] at H
  omega
theorem stB_n {ns : Nat} {s : StV} (H : stB ns s = true) : 1 ≤ s.n ∧ s.n ≤ 8 ∧ 0 ≤ s.ow ∧ s.ow ≤ 1 ∧ 0 ≤ s.mrk ∧ s.mrk ≤ 63 := by
  simp only [stB, Bool.and_eq_true, Bool.not_eq_true', decide_eq_false_iff_not] at H
  omega
theorem moB_n {n : Nat} {st : Nat → StV} (H : moB n st = true) : 1 ≤ n ∧ n ≤ 40 := by
  simp only [moB, Bool.and_eq_true, Bool.not_eq_true', decide_eq_false_iff_not] at H
  omega
theorem moB_st {n : Nat} {st : Nat → StV} (H : moB n st = true) {i : Nat} (hi : i < n) : stB n (st i) = true := by
  simp only [moB, Bool.and_eq_true] at H
  exact allB_get H.2 hi
theorem stB_ch {ns : Nat} {s : StV} (H : stB ns s = true) {j : Nat} (hj : j < s.n) : chB ns (s.ch j) = true := by
  simp only [stB, Bool.and_eq_true] at H
  exact allB_get H.2 hj
theorem chB_vld {ns : Nat} {h : ChV} (H : chB ns h = true) : vld h.t h.l = true := by
  simp only [chB, Bool.and_eq_true] at H
  exact H.1
theorem chB_bs {ns : Nat} {h : ChV} (H : chB ns h = true) : bsB ns h.n h.tw h.ct h.cl = true := by
  simp only [chB, Bool.and_eq_true] at H
  exact H.2
theorem bsB_br {ns n : Nat} {tw ct cl : Nat → Int} (H : bsB ns n tw ct cl = true) {i : Nat} (hi : i < n) : brB ns tw ct cl i = true := by
  simp only [bsB, Bool.and_eq_true] at H
  exact allB_get H.1.2 hi
theorem brB_open {ns : Nat} {tw ct cl : Nat → Int} {i : Nat} (H : brB ns tw ct cl i = true) : 0 ≤ tw i ∧ tw i < ns ∧ vld (ct i) (cl i) = true ∧ 0 < ct i := by
  simp only [brB, Bool.and_eq_true, Bool.not_eq_true', decide_eq_false_iff_not] at H
  exact ⟨by omega, by omega, H.1.2, by omega⟩
def bef (tw : Nat → Int) (k : Nat) : Int := if k = 0 then -1 else tw (k - 1)
theorem brB_eq {ns k : Nat} {tw ct cl : Nat → Int} (hv : ∀ i, i < k → brB ns tw ct cl i = true) :
    brB ns tw ct cl k = (!(decide (tw k ≤ bef tw k)) && !(decide ((ns : Int) ≤ tw k)) && vld (ct k) (cl k) && !(decide (ct k ≤ 0))) := by
  have e : (!(decide (tw k < 0)) && !(decide (0 < k) && decide (tw k ≤ tw (k - 1)))) = !(decide (tw k ≤ bef tw k)) := by
    unfold bef
    by_cases h : k = 0
    · subst h
      rw [if_pos rfl, Bool.eq_iff_iff]
      simp
      omega
    · rw [if_neg h]
      have h0 := (brB_open (hv (k - 1) (by omega))).1
      rw [Bool.eq_iff_iff]
      simp
      omega
  rw [← e]
  unfold brB
  cases decide (tw k < 0) <;> cases decide ((ns : Int) ≤ tw k) <;> cases (decide (0 < k) && decide (tw k ≤ tw (k - 1))) <;> rfl
theorem bsB_bad {ns n i : Nat} {tw ct cl : Nat → Int} (hi : i < n) (h : brB ns tw ct cl i = false) : bsB ns n tw ct cl = false := by
  unfold bsB
  rw [allB_false hi h]
  simp
theorem bsB_short {ns n : Nat} {tw ct cl : Nat → Int} (h : n < 1) : bsB ns n tw ct cl = false := by
  unfold bsB
  rw [decide_eq_true (by omega : (n : Int) < 1)]
  rfl
theorem bsB_long {ns n : Nat} {tw ct cl : Nat → Int} (h : 8 < n) : bsB ns n tw ct cl = false := by
  unfold bsB
  rw [decide_eq_true (by omega : (8 : Int) < (n : Int))]
  simp
theorem bsB_end {ns n : Nat} {tw ct cl : Nat → Int} (h1 : 1 ≤ n) (h2 : n ≤ 8) (h : ∀ i, i < n → brB ns tw ct cl i = true) : bsB ns n tw ct cl = decide (chSum ct cl n = 1) := by
  unfold bsB
  rw [allB_true h, decide_eq_false (by omega : ¬ (n : Int) < 1), decide_eq_false (by omega : ¬ (8 : Int) < (n : Int))]
  rfl
def CV (f : Nat) (a : Array Value) (v : Value) (w : World) : Prop := ∀ wx, Below w.heap.size w wx → Calls Tryz.prog f a wx fun e w' => e = .returned v ∧ Below wx.heap.size wx w'
theorem CV.run {f : Nat} {a : Array Value} {v : Value} {w wx : World} (h : CV f a v w) (hb : Below w.heap.size w wx) : Calls Tryz.prog f a wx fun e w' => e = .returned v ∧ Below wx.heap.size wx w' := h wx hb
theorem CV.keep {f : Nat} {a : Array Value} {v : Value} {w w' : World} (h : CV f a v w) (hb : Below w.heap.size w w') : CV f a v w' := fun wx hx => h wx (hb.trans (hx.mono hb.size))
theorem infoNum : (Tryz.prog.info? 62).map (fun i => (i.zero, i.size, i.bytes)) = some (some (.agg #[.int .i64 0, .int .i64 0]), 2, 16) := by kernel_rfl
def cellsL (n : Nat) (t l : Nat → Int) : List Value := (List.range (n * 2)).map fun j => if j % 2 = 0 then .int .i64 (t (j / 2)) else .int .i64 (l (j / 2))
theorem cellsL_len (n : Nat) (t l : Nat → Int) : (cellsL n t l).length = n * 2 := by simp [cellsL]
theorem cellsL_get {n : Nat} {t l : Nat → Int} {j : Nat} {u : Value} (h : (cellsL n t l)[j]? = some u) : j < n * 2 ∧ u = if j % 2 = 0 then .int .i64 (t (j / 2)) else .int .i64 (l (j / 2)) := by
  unfold cellsL at h
  rw [List.getElem?_map] at h
  rcases Nat.lt_or_ge j (n * 2) with g | g
  · rw [List.getElem?_range g] at h
    exact ⟨g, (Option.some.inj h).symm⟩
  · rw [List.getElem?_eq_none (by simpa using g)] at h
    cases h
theorem cellsL_one (n : Nat) (t l : Nat → Int) : ∀ u ∈ cellsL n t l, u.oneCell' = true := by
  intro u hu
  unfold cellsL at hu
  obtain ⟨j, -, rfl⟩ := List.mem_map.1 hu
  split <;> rfl
end Go.Proofs.YtmfnpipmbpnfbaaGreatDoor
