/- Numbers: which are valid. The quotient of fractions of any size in memory. The quotient of fractions of any size in memory, by a negative one. Operations on two numbers. The four operations on numbers. The four operations on valid numbers. num.Add, Sub, Mul and Div on any numbers. -/
import Derived.Test.YtfhmhkbjcccejaaMRat6

namespace Go.Proofs.Ytfhmhkbjcccejaa
open Go.RowKit

/-- num.divisor. -/
theorem divisorN_any (a b : Nat) (w : World) (ha : a ≤ 4611686018427387904) (hb : b ≤ 4611686018427387904) :
    Calls Try.prog 72 #[.int .i64 (a : Int), .int .i64 (b : Int)] w fun e w' => e = .returned (.int .i64 ((Nat.gcd a b : Nat) : Int)) ∧ Drn w w' := by
  have HA := Lib.hid ha
  have HB := Lib.hid hb
  clear ha hb
  go_enter Try.func72, Try.ntmps72
  go_wp2_with fail
  go_loopw [0, 1] (fun s t wr => ∃ x y : Nat, s = .int .i64 (x : Int) ∧ t = .int .i64 (y : Int) ∧ Hid (x ≤ 4611686018427387904 ∧ y ≤ 4611686018427387904) ∧ Hid (Nat.gcd x y = Nat.gcd a b) ∧ Drn w wr) (fun _ t _ => (intOf t).toNat)
  case atStart => exact ⟨a, b, rfl, rfl, ⟨HA.out, HB.out⟩, rfl, Drn.refl w⟩
  case round =>
    obtain ⟨x, y, rfl, rfl, hxy, hg, hd⟩ := hrel
    rcases Nat.eq_zero_or_pos y with h0 | h0
    · subst h0
      have HG : Hid (Nat.gcd a b = x) := by rw [← hg.out, Nat.gcd_zero_right]; rfl
      go_wp2_with fail
      go_ret
      exact ⟨by rw [HG.out]; rfl, hd⟩
    · have hy0 : ((y : Int) != 0) = true := by rw [bne_iff_ne]; omega
      have hy1 : 0 < (y : Int) := by omega
      have hlt := Nat.mod_lt x h0
      go_wp2_with fail
      go_quiet (fail)
      go_wp2_with fail
      refine ⟨⟨y, x % y, rfl, ?_, ⟨hxy.out.2, Nat.le_trans (Nat.mod_le _ _) hxy.out.1⟩, ?_, hd.more _⟩, ?_⟩
      · first | rw [Int.natCast_emod] | rfl
      · show Nat.gcd y (x % y) = Nat.gcd a b
        rw [← hg.out, Nat.gcd_comm y (x % y), ← Nat.gcd_rec y x, Nat.gcd_comm]
      · simp [intOf]; omega

/-- Is t over l a valid number? -/
def vld (t l : Int) : Bool := !(decide (l < 1)) && !(decide (1152921504606846976 < l)) && !(decide (t < -1152921504606846976)) && !(decide (1152921504606846976 < t)) && (Nat.gcd t.natAbs l.toNat == 1)

set_option maxRecDepth 100000 in
set_option maxHeartbeats 2000000 in
theorem valid_any (t l : Int) (w : World) : Calls Try.prog 35 #[.agg #[.int .i64 t, .int .i64 l]] w fun e w' => e = .returned (.bool (vld t l)) ∧ Below w.heap.size w w' := by
  have HV : Hid (vld t l = (!(decide (l < 1)) && !(decide (1152921504606846976 < l)) && !(decide (t < -1152921504606846976)) && !(decide (1152921504606846976 < t)) && (Nat.gcd t.natAbs l.toNat == 1))) := rfl
  have HD : Hid (decide (l < 1) = false → decide (1152921504606846976 < l) = false → decide (t < -1152921504606846976) = false → decide (1152921504606846976 < t) = false →
      IntKind.i64.wrap (-t) = -t ∧ ∀ wx, Calls Try.prog 72 #[.int .i64 (max t (-t)), .int .i64 l] wx fun e w' => e = .returned (.int .i64 ((Nat.gcd t.natAbs l.toNat : Nat) : Int)) ∧ Drn wx w') := by
    intro h1 h2 h3 h4
    have h1 := of_decide_eq_false h1
    have h2 := of_decide_eq_false h2
    have h3 := of_decide_eq_false h3
    have h4 := of_decide_eq_false h4
    refine ⟨IntWalk.i64_in _ (by omega), fun wx => ?_⟩
    have e1 : max t (-t) = ((t.natAbs : Nat) : Int) := by omega
    have e2 : l = ((l.toNat : Nat) : Int) := by omega
    rw [e1]
    have := divisorN_any t.natAbs l.toNat wx (by omega) (by omega)
    rw [← e2] at this
    exact this
  revert HV HD
  generalize vld t l = v
  generalize Nat.gcd t.natAbs l.toNat = g
  intro HV HD
  cases g1 : decide (l < 1) <;> rw [g1] at HV HD
  case true =>
    obtain rfl : v = false := HV.out
    clear HV HD
    go_enter Try.func35, Try.ntmps35
    go_wp2_with fail
    exact bodyPost_ret (v := .bool false) (by simp [results, Try.results35, go_sem, *]) rfl (by first | exact ⟨rfl, (Below.refl _ _).alloc (Nat.le_refl _) _⟩)
  cases g2 : decide (1152921504606846976 < l) <;> rw [g2] at HV HD
  case true =>
    obtain rfl : v = false := HV.out
    clear HV HD
    go_enter Try.func35, Try.ntmps35
    go_wp2_with fail
    exact bodyPost_ret (v := .bool false) (by simp [results, Try.results35, go_sem, *]) rfl (by first | exact ⟨rfl, (Below.refl _ _).alloc (Nat.le_refl _) _⟩)
  cases g3 : decide (t < -1152921504606846976) <;> rw [g3] at HV HD
  case true =>
    obtain rfl : v = false := HV.out
    clear HV HD
    go_enter Try.func35, Try.ntmps35
    go_wp2_with fail
    exact bodyPost_ret (v := .bool false) (by simp [results, Try.results35, go_sem, *]) rfl (by first | exact ⟨rfl, (Below.refl _ _).alloc (Nat.le_refl _) _⟩)
  cases g4 : decide (1152921504606846976 < t) <;> rw [g4] at HV HD
  case true =>
    obtain rfl : v = false := HV.out
    clear HV HD
    go_enter Try.func35, Try.ntmps35
    go_wp2_with fail
    exact bodyPost_ret (v := .bool false) (by simp [results, Try.results35, go_sem, *]) rfl (by first | exact ⟨rfl, (Below.refl _ _).alloc (Nat.le_refl _) _⟩)
  have HE : Hid (v = (g == 1)) := HV.out
  have hneg := (HD.out rfl rfl rfl rfl).1
  have HC := Lib.hid (HD.out rfl rfl rfl rfl).2
  clear HV HD
  go_enter Try.func35, Try.ntmps35
  go_wp2_with fail
  refine (HC.out _).mono ?_
  rintro e w1 ⟨rfl, hd⟩
  have hb : Below w.heap.size w w1 := ((Below.refl _ _).alloc (Nat.le_refl _) _).trans (hd.below _)
  go_wp2_with fail
  exact bodyPost_ret (v := .bool v) (by rw [HE.out]; have hbe : ((g : Int) == 1) = (g == 1) := (by rw [Bool.eq_iff_iff]; simp; omega); simp [results, Try.results35, go_sem, hbe]) rfl ⟨rfl, hb⟩

end Go.Proofs.Ytfhmhkbjcccejaa

namespace Go.Proofs.Ytfhmhkbjcccejaa
open Go.RowKit

theorem B4.new (w : World) (p q r s : Value) (T : Nat) : B4 w.heap.size p q r s (w.alloc (.cells #[p, q, r, s] T)) := by simp [B4, go_sem]

/-- Slot s points to a new box of four cells. -/
def CutQ (X : World) (p q r u : Value) (s : Value) (wx : World) : Prop :=
  ∃ g, s = .pointer (some ⟨g, 0, none⟩) ∧ B4 g p q r u wx ∧ Wr4 g 57 wx ∧ Below X.heap.size X wx ∧ X.heap.size ≤ g ∧ g < wx.heap.size
theorem cutQ_new {X w2 : World} {p q r u : Value} (hB : Below X.heap.size X w2) : CutQ X p q r u (.pointer (some ⟨w2.heap.size, 0, none⟩)) (w2.alloc (.cells #[p, q, r, u] 57)) :=
  ⟨w2.heap.size, rfl, B4.new w2 _ _ _ _ 57, Wr4.new w2 _ _ _ _ 57 rfl, hB.alloc hB.size _, hB.size, by simp⟩
theorem Wr4.set {g : Nat} {w : World} (h : Wr4 g 57 w) (p q r u : Value) : B4 g p q r u ((((w.setCell ⟨g, 0, none⟩ p).setCell ⟨g, 1, none⟩ q).setCell ⟨g, 2, none⟩ r).setCell ⟨g, 3, none⟩ u) ∧ Wr4 g 57 ((((w.setCell ⟨g, 0, none⟩ p).setCell ⟨g, 1, none⟩ q).setCell ⟨g, 2, none⟩ r).setCell ⟨g, 3, none⟩ u) := by
  obtain ⟨⟨a, b, c, d, h1, h2, h3, h4⟩, f1, f2, f3, f4, hx⟩ := h
  have hb : B4 g p q r u ((((w.setCell ⟨g, 0, none⟩ p).setCell ⟨g, 1, none⟩ q).setCell ⟨g, 2, none⟩ r).setCell ⟨g, 3, none⟩ u) := by simp [B4, go_sem, h1, h2, h3, h4]
  refine ⟨hb, ⟨p, q, r, u, hb.1, hb.2.1, hb.2.2.1, hb.2.2.2⟩, ?_, ?_, ?_, ?_, (((hx.set _ _ _).set _ _ _).set _ _ _).set _ _ _⟩ <;> simp [go_sem, f1, f2, f3, f4]
theorem cutQ_set {X w2 : World} {p q r u : Value} {g : Nat} (hW : Wr4 g 57 w2) (hB : Below X.heap.size X w2) (hg : X.heap.size ≤ g) : CutQ X p q r u (.pointer (some ⟨g, 0, none⟩)) ((((w2.setCell ⟨g, 0, none⟩ p).setCell ⟨g, 1, none⟩ q).setCell ⟨g, 2, none⟩ r).setCell ⟨g, 3, none⟩ u) := by
  have hsz : g < w2.heap.size := by obtain ⟨_, _, _, _, _, cs, fr, hc⟩ := hW; exact lt_of_heap hc
  exact ⟨g, rfl, (hW.set p q r u).1, (hW.set p q r u).2, (((hB.setCell hg _).setCell hg _).setCell hg _).setCell hg _, hg, by simpa [World.setCell] using hsz⟩

set_option maxRecDepth 100000 in
theorem signR_any (b b2 : Bool) (A B : Option Addr) (n c m d : Nat) (w : World) (hn : n ≤ 1000000) :
    Calls Try.prog 82 #[.agg #[.bool b, .slice A n c, .bool b2, .slice B m d]] w fun e w' => e = .returned (.int .i64 (sg b n)) ∧ Below w.heap.size w w' := by
  have HS := Lib.hid (fun wx => signI_any b A n c wx hn)
  go_enter Try.func82, Try.ntmps82
  go_wp2_with fail
  (with_reducible refine (HS.out _).mono ?_)
  rintro e w1 ⟨rfl, hB⟩
  go_wp2_with fail
  go_ret
  exact ⟨rfl, (below_alloc w _).trans (hB.mono (by simp))⟩

theorem inv_num (y : Rat) (hy : y.num ≠ 0) : (y⁻¹).num.natAbs = y.den ∧ (y⁻¹).den = y.num.natAbs := by
  rw [Rat.num_inv, Rat.den_inv, if_neg hy]
  refine ⟨?_, rfl⟩
  rw [Int.natAbs_mul, Int.natAbs_natCast]
  have : y.num.sign.natAbs = 1 := by rw [Int.natAbs_sign]; exact if_neg hy
  rw [this, Nat.one_mul]

set_option maxRecDepth 100000 in
set_option maxHeartbeats 8000000 in
theorem quoR_pos (b1 : Bool) (A B A' B' : Option Addr) (n c m d n' c' m' d' : Nat) (x y : Rat) (w : World) (hx : Q w b1 (.slice A n c) (.slice B m d) x) (hy : Q w false (.slice A' n' c') (.slice B' m' d') y)
    (hn : n ≤ 50000) (hm : m ≤ 50000) (hn' : n' ≤ 50000) (hm' : m' ≤ 50000) (hy1 : y.num.natAbs < 18446744073709551616) (hy2 : y.den < 18446744073709551616) (hy0 : y.num ≠ 0) :
    Calls Try.prog 57 #[.agg #[.bool b1, .slice A n c, .bool false, .slice B m d], .agg #[.bool false, .slice A' n' c', .bool false, .slice B' m' d']] w (RetR (x / y) w) := by
  obtain ⟨i1, i2⟩ := inv_num y hy0
  have hden : 0 < y.den := by have := y.den_nz; omega
  have HLb : Hid (∀ wx, Calls Try.prog 71 #[.agg #[.bool false, .slice A' n' c', .bool false, .slice B' m' d']] wx fun e w' => e = .returned (.agg #[.bool false, .slice B' m' d']) ∧ Below wx.heap.size wx w') := fun wx => low_any false A' B' n' c' m' d' wx hy.low (by omega)
  have HS : Hid (∀ wx, Calls Try.prog 82 #[.agg #[.bool false, .slice A' n' c', .bool false, .slice B' m' d']] wx fun e w' => e = .returned (.int .i64 (sg false n')) ∧ Below wx.heap.size wx w') := fun wx => signR_any false false A' B' n' c' m' d' wx (by omega)
  have hs0 : decide (sg false n' < 0) = false := by unfold sg; by_cases h : n' = 0 <;> simp [h]
  have hpos : 0 < y.num := by
    have h1 := hy.1
    have h2 : ¬ y.num < 0 := by simpa using h1.symm
    omega
  have HM : Hid (∀ wx, Below w.heap.size w wx → Calls Try.prog 38 #[.agg #[.bool b1, .slice A n c, .bool false, .slice B m d], .agg #[.bool false, .slice B' m' d', .bool false, .slice A' n' c']] wx (RetR (x / y) wx)) := fun wx hb => by
    rw [Rat.div_def]
    refine mulR_any b1 false A B B' A' n c m d m' d' n' c' x y⁻¹ wx (hx.keep hb) ⟨?_, ?_, ?_⟩ (by omega) (by omega) (by omega) (by omega) (by rw [i1]; exact hy2) (by rw [i2]; exact hy1)
    · have : ¬ (y⁻¹).num < 0 := by rw [Rat.num_inv, Int.sign_eq_one_of_pos hpos]; omega
      rw [decide_eq_false this]
    · rw [i1]; exact (hy.keep hb).2.2
    · rw [i2]; exact (hy.keep hb).2.1
  generalize x / y = z at HM ⊢
  clear hx hy hn hm hn' hm' hy2 hy1 hy0 i1 i2 hden hpos x y
  go_enter Try.func57, Try.ntmps57
  go_upto_region 1 with fail
  generalize hX : ((w.alloc _).alloc _).alloc _ = X
  have hXX : Below w.heap.size w X ∧ w.heap.size + 3 = X.heap.size ∧ Wr4 (w.heap.size + 1 + 1) 57 X ∧ B4 w.heap.size (.bool b1) (.slice A n c) (.bool false) (.slice B m d) X ∧ B4 (w.heap.size + 1) (.bool false) (.slice A' n' c') (.bool false) (.slice B' m' d') X := by
    subst hX
    obtain ⟨f1, f2, f3⟩ := frame4 w (.bool b1) (.slice A n c) (.bool false) (.slice B m d) (.bool false) (.slice A' n' c') (.bool false) (.slice B' m' d') (.bool false) (.slice none 0 0) (.bool false) (.slice none 0 0)
    exact ⟨f1, f2, f3, by simp [B4, go_sem], by simp [B4, go_sem]⟩
  obtain ⟨hwX, hsX, hWX, K4, K4'⟩ := hXX
  have za : w.heap.size < X.heap.size := by omega
  have zb : w.heap.size + 1 < X.heap.size := by omega
  have zc : w.heap.size + 1 + 1 < X.heap.size := by omega
  clear hX hsX
  have KX := Lib.hid K4
  have KX' := Lib.hid K4'
  obtain ⟨j0, j1, j2, j3⟩ := K4'
  clear K4
  go_cut [5] (fun s wx => ∃ Y : World, Y = wx ∧ CutQ X (.bool false) (.slice B' m' d') (.bool false) (.slice A' n' c') s Y)
  case first =>
    go_region_held3 (fun w' => w'.cell? ⟨w.heap.size + 1, 0, none⟩ = some (.bool false) ∧ w'.cell? ⟨w.heap.size + 1, 1, none⟩ = some (.slice A' n' c') ∧ w'.cell? ⟨w.heap.size + 1, 2, none⟩ = some (.bool false) ∧ w'.cell? ⟨w.heap.size + 1, 3, none⟩ = some (.slice B' m' d')) (simp [go_sem, World.cell?_alloc_past, *])
      (first
        | (go_at_call 71; (with_reducible refine (HLb.out _).mono ?_); rintro e w1 ⟨rfl, hB1⟩; (have R1 : Below X.heap.size X w1 := stepB (by repeat (first | exact Below.refl _ _ | refine Below.drew ?_ | refine Below.alloc ?_ (Nat.le_refl _) _)) hB1); have C1 := (bcell R1).1; have v1a := Nat.lt_of_lt_of_le za R1.size; have v1b := Nat.lt_of_lt_of_le zb R1.size; (try (have hwr := (Wr4.new _ (.bool false) (.slice none 0 0) (.bool false) (.slice none 0 0) 57 rfl).keep hB1)); (try (have hwr := (Wr4.new _ (.bool false) (.slice none 0 0) (.bool false) (.slice none 0 0) 57 rfl).keep (below_undrew' hB1))); (try (obtain ⟨⟨s1, s2, s3, s4, s5, s6, s7, s8⟩, u1, u2, u3, u4, u5⟩ := id hwr))))
    all_goals go_wp2_with fail
    all_goals go_meet
    all_goals first | exact ⟨_, rfl, cutQ_new R1⟩ | exact ⟨_, rfl, cutQ_set hwr R1 (by first | exact Nat.le_refl _ | exact R1.size)⟩
  case rest =>
    obtain ⟨Y, rfl, g5, rfl, hb5, hw5, hXY, hg5, hg5'⟩ := hcut
    have hwY := hwX.trans (hXY.mono hwX.size)
    have hWY := hWX.keep hXY
    have KY := Lib.hid (KX.out.keep za hXY)
    have KY' := Lib.hid (KX'.out.keep zb hXY)
    have ya := Nat.lt_of_lt_of_le za hXY.size
    have yb := Nat.lt_of_lt_of_le zb hXY.size
    have g5n : w.heap.size + 1 + 1 ≠ g5 := by omega
    have g5w : w.heap.size ≤ g5 := by omega
    clear j0 j1 j2 j3 hWX KX KX' hXY hg5 za zb zc
    obtain ⟨j0, j1, j2, j3⟩ := KY'.out
    have H5 := Lib.hid hb5
    clear hb5
    go_wp2_with fail
    (with_reducible refine (HS.out _).mono ?_)
    rintro e w1 ⟨rfl, hB1⟩
    have hw1 := hwY.trans (hB1.mono hwY.size)
    have hW1 := hWY.keep hB1
    have hw51 := hw5.keep hB1
    have K1 := KY.out.keep ya hB1
    have K1' := KY'.out.keep yb hB1
    have H51 := H5.out.keep hg5' hB1
    have ua := Nat.lt_of_lt_of_le ya hB1.size
    have ub := Nat.lt_of_lt_of_le yb hB1.size
    have u5 := Nat.lt_of_lt_of_le hg5' hB1.size
    clear j0 j1 j2 j3 KY KY' H5 hWY hw5
    obtain ⟨k0, k1, k2, k3⟩ := K1
    obtain ⟨i0, i1, i2, i3⟩ := H51
    clear K1'
    go_wp2_with fail
    (with_reducible refine (HM.out _ hw1).mono ?_)
    rintro e w2 ⟨A1, n1, c1, B1, m1, d1, rfl, hD1, hD2, hB2⟩
    obtain ⟨⟨o1, o2, o3, o4, o5, o6, o7, o8⟩, q1, q2, q3, q4, q5⟩ := hW1.keep hB2
    have hw2 := hw1.trans (hB2.mono hw1.size)
    go_wp2_with fail
    exact bodyPost_ret (v := .agg #[.bool (decide (z.num < 0)), .slice A1 n1 c1, .bool false, .slice B1 m1 d1]) (by simp [results, Try.results57, go_sem, o5, o6, o7, o8]) rfl (retR_box' rfl hD1 hD2 q5 hw2 (by omega))

end Go.Proofs.Ytfhmhkbjcccejaa

namespace Go.Proofs.Ytfhmhkbjcccejaa
open Go.RowKit

theorem B4.far {g k : Nat} {p q r s : Value} {w : World} (h : B4 g p q r s w) (hk : g ≠ k) (o : Nat) (u : Value) : B4 g p q r s (w.setCell ⟨k, o, none⟩ u) := by
  obtain ⟨h1, h2, h3, h4⟩ := h
  have key : ∀ i : Nat, (w.setCell ⟨k, o, none⟩ u).cell? ⟨g, i, none⟩ = w.cell? ⟨g, i, none⟩ := fun i => World.cell?_setCell_other w ⟨k, o, none⟩ ⟨g, i, none⟩ u (fun e => hk (by have h := congrArg Addr.block e; first | exact h | exact h.symm))
  exact ⟨(key _).trans h1, (key _).trans h2, (key _).trans h3, (key _).trans h4⟩
theorem Wr4.far {g k : Nat} {w : World} (h : Wr4 g 57 w) (hk : g ≠ k) (o : Nat) (u : Value) : Wr4 g 57 (w.setCell ⟨k, o, none⟩ u) := by
  obtain ⟨⟨a, b, c, d, h1, h2, h3, h4⟩, f1, f2, f3, f4, hx⟩ := h
  have hb := B4.far (w := w) ⟨h1, h2, h3, h4⟩ hk o u
  have e : (w.setCell ⟨k, o, none⟩ u).heap[g]? = w.heap[g]? := Below.heap_setCell _ _ _ _ hk
  have key : ∀ i : Nat, (w.setCell ⟨k, o, none⟩ u).frozen? ⟨g, i, none⟩ = w.frozen? ⟨g, i, none⟩ := fun i => World.frozen?_of_block (w := w) e
  exact ⟨⟨a, b, c, d, hb.1, hb.2.1, hb.2.2.1, hb.2.2.2⟩, (key _).trans f1, (key _).trans f2, (key _).trans f3, (key _).trans f4, hx.set _ _ _⟩

set_option maxRecDepth 100000 in
set_option maxHeartbeats 8000000 in
theorem quoR_neg (b1 : Bool) (A B A' B' : Option Addr) (n c m d n' c' m' d' : Nat) (x y : Rat) (w : World) (hx : Q w b1 (.slice A n c) (.slice B m d) x) (hy : Q w true (.slice A' n' c') (.slice B' m' d') y)
    (hn : n ≤ 50000) (hm : m ≤ 50000) (hn' : n' ≤ 50000) (hm' : m' ≤ 50000) (hy1 : y.num.natAbs < 18446744073709551616) (hy2 : y.den < 18446744073709551616) (hy0 : y.num ≠ 0) :
    Calls Try.prog 57 #[.agg #[.bool b1, .slice A n c, .bool false, .slice B m d], .agg #[.bool true, .slice A' n' c', .bool false, .slice B' m' d']] w (RetR (x / y) w) := by
  obtain ⟨i1, i2⟩ := inv_num y hy0
  have hden : 0 < y.den := by have := y.den_nz; omega
  have HLb : Hid (∀ wx, Calls Try.prog 71 #[.agg #[.bool true, .slice A' n' c', .bool false, .slice B' m' d']] wx fun e w' => e = .returned (.agg #[.bool false, .slice B' m' d']) ∧ Below wx.heap.size wx w') := fun wx => low_any true A' B' n' c' m' d' wx hy.low (by omega)
  have HS : Hid (∀ wx, Calls Try.prog 82 #[.agg #[.bool true, .slice A' n' c', .bool false, .slice B' m' d']] wx fun e w' => e = .returned (.int .i64 (sg true n')) ∧ Below wx.heap.size wx w') := fun wx => signR_any true false A' B' n' c' m' d' wx (by omega)
  have hs0 : decide (sg true n' < 0) = true := by simp [sg]
  have hneg : y.num < 0 := by
    have h1 := hy.1
    simpa using h1.symm
  have hinum : (y⁻¹).num = -(y.den : Int) := by rw [Rat.num_inv, Int.sign_eq_neg_one_of_neg hneg]; omega
  have HN1 : Hid (∀ wx, Below w.heap.size w wx → Calls Try.prog 65 #[.agg #[.bool false, .slice B' m' d']] wx (RetB (-(y.den : Int)) wx)) := fun wx hb => (neg_any false B' m' d' _ wx (hy.keep hb).2.2 (by omega)).mono fun _ _ => RetB.of
  have HN2 : Hid (∀ wx, Below w.heap.size w wx → Calls Try.prog 65 #[.agg #[.bool true, .slice A' n' c']] wx (RetN y.num.natAbs wx)) := fun wx hb => (neg_any true A' n' c' _ wx (hy.keep hb).2.1 (by omega)).mono fun _ _ => RetN.of
  have HM : Hid (∀ wx p A1 n1 c1 A2 n2 c2, Below w.heap.size w wx → Hid (p = decide (-(y.den : Int) < 0)) → D wx (.slice A1 n1 c1) (-(y.den : Int)).natAbs → D wx (.slice A2 n2 c2) y.num.natAbs → Calls Try.prog 38 #[.agg #[.bool b1, .slice A n c, .bool false, .slice B m d], .agg #[.bool p, .slice A1 n1 c1, .bool false, .slice A2 n2 c2]] wx (RetR (x / y) wx)) := fun wx p A1 n1 c1 A2 n2 c2 hb hp h1 h2 => by
    have e1 : n1 ≤ m' := h1.len (by rw [Int.natAbs_neg, Int.natAbs_natCast]; exact hy.2.2.pow)
    have e2 : n2 ≤ n' := h2.len hy.2.1.pow
    rw [Rat.div_def]
    refine mulR_any b1 p A B A1 A2 n c m d n1 c1 n2 c2 x y⁻¹ wx (hx.keep hb) ⟨?_, ?_, ?_⟩ (by omega) (by omega) (by omega) (by omega) (by rw [i1]; exact hy2) (by rw [i2]; exact hy1)
    · rw [hinum]; exact hp.out
    · rw [hinum]; exact h1
    · rw [i2]; exact h2
  generalize x / y = z at HM ⊢
  generalize -(y.den : Int) = e1 at HN1 HM
  generalize y.num.natAbs = e2 at HN2 HM
  clear hx hy hn hm hn' hm' hy2 hy1 hy0 i1 i2 hden hneg hinum x y
  go_enter Try.func57, Try.ntmps57
  go_upto_region 1 with fail
  generalize hX : ((w.alloc _).alloc _).alloc _ = X
  have hXX : Below w.heap.size w X ∧ w.heap.size + 3 = X.heap.size ∧ Wr4 (w.heap.size + 1 + 1) 57 X ∧ B4 w.heap.size (.bool b1) (.slice A n c) (.bool false) (.slice B m d) X ∧ B4 (w.heap.size + 1) (.bool true) (.slice A' n' c') (.bool false) (.slice B' m' d') X := by
    subst hX
    obtain ⟨f1, f2, f3⟩ := frame4 w (.bool b1) (.slice A n c) (.bool false) (.slice B m d) (.bool true) (.slice A' n' c') (.bool false) (.slice B' m' d') (.bool false) (.slice none 0 0) (.bool false) (.slice none 0 0)
    exact ⟨f1, f2, f3, by simp [B4, go_sem], by simp [B4, go_sem]⟩
  obtain ⟨hwX, hsX, hWX, K4, K4'⟩ := hXX
  have za : w.heap.size < X.heap.size := by omega
  have zb : w.heap.size + 1 < X.heap.size := by omega
  have zc : w.heap.size + 1 + 1 < X.heap.size := by omega
  clear hX hsX
  have KX := Lib.hid K4
  have KX' := Lib.hid K4'
  obtain ⟨j0, j1, j2, j3⟩ := K4'
  clear K4
  go_cut [5] (fun s wx => ∃ Y : World, Y = wx ∧ CutQ X (.bool false) (.slice B' m' d') (.bool true) (.slice A' n' c') s Y)
  case first =>
    go_region_held3 (fun w' => w'.cell? ⟨w.heap.size + 1, 0, none⟩ = some (.bool true) ∧ w'.cell? ⟨w.heap.size + 1, 1, none⟩ = some (.slice A' n' c') ∧ w'.cell? ⟨w.heap.size + 1, 2, none⟩ = some (.bool false) ∧ w'.cell? ⟨w.heap.size + 1, 3, none⟩ = some (.slice B' m' d')) (simp [go_sem, World.cell?_alloc_past, *])
      (first
        | (go_at_call 71; (with_reducible refine (HLb.out _).mono ?_); rintro e w1 ⟨rfl, hB1⟩; (have R1 : Below X.heap.size X w1 := stepB (by repeat (first | exact Below.refl _ _ | refine Below.drew ?_ | refine Below.alloc ?_ (Nat.le_refl _) _)) hB1); have C1 := (bcell R1).1; have v1a := Nat.lt_of_lt_of_le za R1.size; have v1b := Nat.lt_of_lt_of_le zb R1.size; (try (have hwr := (Wr4.new _ (.bool false) (.slice none 0 0) (.bool false) (.slice none 0 0) 57 rfl).keep hB1)); (try (have hwr := (Wr4.new _ (.bool false) (.slice none 0 0) (.bool false) (.slice none 0 0) 57 rfl).keep (below_undrew' hB1))); (try (obtain ⟨⟨s1, s2, s3, s4, s5, s6, s7, s8⟩, u1, u2, u3, u4, u5⟩ := id hwr))))
    all_goals go_wp2_with fail
    all_goals go_meet
    all_goals first | exact ⟨_, rfl, cutQ_new R1⟩ | exact ⟨_, rfl, cutQ_set hwr R1 (by first | exact Nat.le_refl _ | exact R1.size)⟩
  case rest =>
    obtain ⟨Y, rfl, g5, rfl, hb5, hw5, hXY, hg5, hg5'⟩ := hcut
    have hwY := hwX.trans (hXY.mono hwX.size)
    have hWY := hWX.keep hXY
    have KY := Lib.hid (KX.out.keep za hXY)
    have KY' := Lib.hid (KX'.out.keep zb hXY)
    have ya := Nat.lt_of_lt_of_le za hXY.size
    have yb := Nat.lt_of_lt_of_le zb hXY.size
    have g5n : w.heap.size + 1 + 1 ≠ g5 := by omega
    have g5w : w.heap.size ≤ g5 := by omega
    have g5x : w.heap.size + 1 + 1 < g5 := by omega
    clear j0 j1 j2 j3 hWX KX KX' hXY hg5 za zb zc
    obtain ⟨j0, j1, j2, j3⟩ := KY'.out
    have H5 := Lib.hid hb5
    clear hb5
    go_wp2_with fail
    (with_reducible refine (HS.out _).mono ?_)
    rintro e w1 ⟨rfl, hB1⟩
    have hw1 := hwY.trans (hB1.mono hwY.size)
    have hW1 := hWY.keep hB1
    have hw51 := hw5.keep hB1
    have K1 := KY.out.keep ya hB1
    have K1' := KY'.out.keep yb hB1
    have H51 := H5.out.keep hg5' hB1
    have ua := Nat.lt_of_lt_of_le ya hB1.size
    have ub := Nat.lt_of_lt_of_le yb hB1.size
    have u5 := Nat.lt_of_lt_of_le hg5' hB1.size
    clear j0 j1 j2 j3 KY KY' H5 hWY hw5
    obtain ⟨j0, j1, j2, j3⟩ := K1'
    have hne : w.heap.size + 1 ≠ g5 := by omega
    have hne0 : w.heap.size ≠ g5 := by omega
    have U5 := Lib.hid u5
    clear u5 H51
    go_upto_region 3 with fail
    go_region_held3 (fun w' => w'.cell? ⟨w.heap.size + 1, 0, none⟩ = some (.bool true) ∧ w'.cell? ⟨w.heap.size + 1, 1, none⟩ = some (.slice A' n' c') ∧ w'.cell? ⟨w.heap.size + 1, 2, none⟩ = some (.bool false) ∧ w'.cell? ⟨w.heap.size + 1, 3, none⟩ = some (.slice B' m' d')) (simp [go_sem, *])
      (first
        | (go_at_call 71; (with_reducible refine (HLb.out _).mono ?_); rintro e v1 ⟨rfl, hC1⟩; (have R1 : Below w1.heap.size w1 v1 := stepB (by repeat (first | exact Below.refl _ _ | refine Below.drew ?_ | refine Below.alloc ?_ (Nat.le_refl _) _)) hC1); have C1 := (bcell R1).1; have W1 := hw1.trans (R1.mono hw1.size))
        | (go_at_call 65; (with_reducible refine (HN1.out _ (by repeat (first | exact W1 | refine Below.drew ?_ | refine Below.alloc ?_ (Below.size W1) _))).mono ?_); rintro e v2 ⟨p, A1, n1, c1, rfl, hp, hD1, hC2⟩; (have S2 : Below v1.heap.size v1 v2 := stepB (by repeat (first | exact Below.refl _ _ | refine Below.drew ?_ | refine Below.alloc ?_ (Nat.le_refl _) _)) hC2); have R2 := stepB R1 S2; have C2 := (bcell R2).1; have W2 := hw1.trans (R2.mono hw1.size))
        | (go_at_call 65; (with_reducible refine (HN2.out _ (by repeat (first | exact W2 | refine Below.drew ?_ | refine Below.alloc ?_ (Below.size W2) _))).mono ?_); rintro e v3 ⟨A2, n2, c2, rfl, hD2, hC3⟩; (have S3 : Below v2.heap.size v2 v3 := stepB (by repeat (first | exact Below.refl _ _ | refine Below.drew ?_ | refine Below.alloc ?_ (Nat.le_refl _) _)) hC3); have R3 := stepB R2 S3; have C3 := (bcell R3).1; have W3 := hw1.trans (R3.mono hw1.size); have hD1b := hD1.keep S3; have hw53 := hw51.keep R3; obtain ⟨⟨s1, s2, s3, s4, s5, s6, s7, s8⟩, t1, t2, t3, t4, t5⟩ := id hw53))
    go_upto_region 4 with fail
    generalize hZ : World.setCell _ _ _ = Z
    have hZZ : B4 g5 (.bool p) (.slice A1 n1 c1) (.bool false) (.slice A2 n2 c2) Z ∧ D Z (.slice A1 n1 c1) e1.natAbs ∧ D Z (.slice A2 n2 c2) e2 ∧ B4 w.heap.size (.bool b1) (.slice A n c) (.bool false) (.slice B m d) Z ∧ Wr4 (w.heap.size + 1 + 1) 57 Z ∧ Below w.heap.size w Z := by
      have kD : ∀ {v x}, D v3 v x → D ((((v3.setCell ⟨g5, 0, none⟩ (.bool p)).setCell ⟨g5, 1, none⟩ (.slice A1 n1 c1)).setCell ⟨g5, 2, none⟩ (.bool false)).setCell ⟨g5, 3, none⟩ (.slice A2 n2 c2)) v x := fun h => (((h.set t5 (by decide) _ _).set (t5.set _ _ _) (by decide) _ _).set ((t5.set _ _ _).set _ _ _) (by decide) _ _).set (((t5.set _ _ _).set _ _ _).set _ _ _) (by decide) _ _
      rw [← hZ]
      exact ⟨(hw53.set _ _ _ _).1, kD hD1b, kD hD2, (((((K1.keep ua R3).far hne0 _ _).far hne0 _ _).far hne0 _ _).far hne0 _ _), ((((hW1.keep R3).far g5n _ _).far g5n _ _).far g5n _ _).far g5n _ _, (((W3.setCell g5w _).setCell g5w _).setCell g5w _).setCell g5w _⟩
    obtain ⟨hb5, hE1, hE2, hK, hWZ, hwZ⟩ := hZZ
    clear hZ
    obtain ⟨k0, k1, k2, k3⟩ := hK
    obtain ⟨i0, i1, i2, i3⟩ := hb5
    clear j0 j1 j2 j3 s5 s6 s7 s8 t1 t2 t3 t4 C1 C2 C3
    go_wp2_with fail
    (with_reducible refine (HM.out _ p A1 n1 c1 A2 n2 c2 hwZ hp hE1 hE2).mono ?_)
    rintro e w2 ⟨A3, n3, c3, B3, m3, d3, rfl, hF1, hF2, hB2⟩
    obtain ⟨⟨o1, o2, o3, o4, o5, o6, o7, o8⟩, q1, q2, q3, q4, q5⟩ := hWZ.keep hB2
    have hw2 := hwZ.trans (hB2.mono hwZ.size)
    go_wp2_with fail
    exact bodyPost_ret (v := .agg #[.bool (decide (z.num < 0)), .slice A3 n3 c3, .bool false, .slice B3 m3 d3]) (by simp [results, Try.results57, go_sem, o5, o6, o7, o8]) rfl (retR_box' rfl hF1 hF2 q5 hw2 (by omega))

/-- exact.Rat.Quo, for a divisor other than 0. -/
theorem quoR_any (b1 b2 : Bool) (A B A' B' : Option Addr) (n c m d n' c' m' d' : Nat) (x y : Rat) (w : World) (hx : Q w b1 (.slice A n c) (.slice B m d) x) (hy : Q w b2 (.slice A' n' c') (.slice B' m' d') y)
    (hn : n ≤ 50000) (hm : m ≤ 50000) (hn' : n' ≤ 50000) (hm' : m' ≤ 50000) (hy1 : y.num.natAbs < 18446744073709551616) (hy2 : y.den < 18446744073709551616) (hy0 : y.num ≠ 0) :
    Calls Try.prog 57 #[.agg #[.bool b1, .slice A n c, .bool false, .slice B m d], .agg #[.bool b2, .slice A' n' c', .bool false, .slice B' m' d']] w (RetR (x / y) w) := by
  cases b2
  · exact quoR_pos b1 A B A' B' n c m d n' c' m' d' x y w hx hy hn hm hn' hm' hy1 hy2 hy0
  · exact quoR_neg b1 A B A' B' n c m d n' c' m' d' x y w hx hy hn hm hn' hm' hy1 hy2 hy0

end Go.Proofs.Ytfhmhkbjcccejaa

namespace Go.Proofs.Ytfhmhkbjcccejaa
open Go.RowKit

instance (z : Rat) : Decidable (Fits z) := inferInstanceAs (Decidable (_ ∧ _))

/-- The number of a fraction, or ErrFull. -/
def outN (z : Rat) : Value := if Fits z then .tuple #[.agg #[.int .i64 z.num, .int .i64 (z.den : Int)], .int .i64 0] else .tuple #[.agg #[.int .i64 0, .int .i64 0], .int .i64 3]

theorem num_any (b : Bool) (A B : Option Addr) (n c m d : Nat) (x : Rat) (w : World) (h : Q w b (.slice A n c) (.slice B m d) x) (hn : n ≤ 400000) (hm : m ≤ 400000) :
    Calls Try.prog 34 #[.agg #[.bool b, .slice A n c, .bool false, .slice B m d]] w fun e w' => e = .returned (outN x) ∧ Below w.heap.size w w' := by
  by_cases hf : Fits x
  · have e : outN x = .tuple #[.agg #[.int .i64 x.num, .int .i64 (x.den : Int)], .int .i64 0] := if_pos hf
    rw [e]
    exact num_ok b A B n c m d x w h hm hf
  · have e : outN x = .tuple #[.agg #[.int .i64 0, .int .i64 0], .int .i64 3] := if_neg hf
    rw [e]
    exact num_full b A B n c m d x w h hn hm hf

/-- Three boxes of numbers. -/
theorem boxes3 (w : World) (t l t' l' u v : Value) : ∃ X, ((w.alloc (.cells #[t, l] 23)).alloc (.cells #[t', l'] 23)).alloc (.cells #[u, v] 23) = X ∧ Below w.heap.size w X ∧ X.heap.size = w.heap.size + 3 ∧
    X.cell? ⟨w.heap.size, 0, none⟩ = some t ∧ X.cell? ⟨w.heap.size, 1, none⟩ = some l ∧ X.cell? ⟨w.heap.size + 1, 0, none⟩ = some t' ∧ X.cell? ⟨w.heap.size + 1, 1, none⟩ = some l' ∧ Wr (w.heap.size + 2) 23 X := by
  refine ⟨_, rfl, (((Below.refl _ _).alloc (Nat.le_refl _) _).alloc (by simp) _).alloc (by simp; omega) _, by simp, by simp [go_sem], by simp [go_sem], by simp [go_sem], by simp [go_sem], Wr.new _ _ _ 23 (by simp)⟩

theorem vld_num {x : Rat} (h : vld x.num (x.den : Int) = true) : -9223372036854775808 ≤ x.num ∧ x.num ≤ 9223372036854775807 ∧ x.den ≤ 9223372036854775807 := by
  simp [vld] at h
  omega

set_option maxRecDepth 100000 in
set_option maxHeartbeats 2000000 in
theorem operate_bad1 (t l t' l' : Int) (f : Value) (w : World) (h : vld t l = false) :
    Calls Try.prog 39 #[.agg #[.int .i64 t, .int .i64 l], .agg #[.int .i64 t', .int .i64 l'], f] w fun e w' => e = .returned (.tuple #[.agg #[.int .i64 0, .int .i64 0], .int .i64 1]) ∧ Below w.heap.size w w' := by
  have HV : Hid (∀ wx, Calls Try.prog 35 #[.agg #[.int .i64 t, .int .i64 l]] wx fun e w' => e = .returned (.bool false) ∧ Below wx.heap.size wx w') := fun wx => by
    have := valid_any t l wx
    rw [h] at this
    exact this
  clear h
  go_enter Try.func39, Try.ntmps39
  go_upto_region 1 with fail
  obtain ⟨X, hX, hwX, hz, k0, k1, k2, k3, hW⟩ := boxes3 w (.int .i64 t) (.int .i64 l) (.int .i64 t') (.int .i64 l') (.int .i64 0) (.int .i64 0)
  rw [hX]
  clear hX
  have h0 : w.heap.size < X.heap.size := by omega
  go_wp2_with fail
  (with_reducible refine (HV.out X).mono ?_)
  rintro e w1 ⟨rfl, hB1⟩
  have B1 := hwX.trans (hB1.mono hwX.size)
  obtain ⟨⟨p1, p2, p3, p4⟩, p5, p6, p7⟩ := hW.keep hB1
  clear k0 k1 k2 k3 hz h0
  go_wp2_with fail
  exact bodyPost_ret (v := .tuple #[.agg #[.int .i64 0, .int .i64 0], .int .i64 1]) (by simp [results, Try.results39, go_sem, *]) rfl ⟨rfl, (B1.setCell (by show w.heap.size ≤ w.heap.size + 2; omega) _).setCell (by show w.heap.size ≤ w.heap.size + 2; omega) _⟩

set_option maxRecDepth 100000 in
set_option maxHeartbeats 2000000 in
theorem operate_bad2 (t l t' l' : Int) (f : Value) (w : World) (h : vld t l = true) (h' : vld t' l' = false) :
    Calls Try.prog 39 #[.agg #[.int .i64 t, .int .i64 l], .agg #[.int .i64 t', .int .i64 l'], f] w fun e w' => e = .returned (.tuple #[.agg #[.int .i64 0, .int .i64 0], .int .i64 1]) ∧ Below w.heap.size w w' := by
  have HV : Hid (∀ wx, Calls Try.prog 35 #[.agg #[.int .i64 t, .int .i64 l]] wx fun e w' => e = .returned (.bool true) ∧ Below wx.heap.size wx w') := fun wx => by
    have := valid_any t l wx
    rw [h] at this
    exact this
  have HV' : Hid (∀ wx, Calls Try.prog 35 #[.agg #[.int .i64 t', .int .i64 l']] wx fun e w' => e = .returned (.bool false) ∧ Below wx.heap.size wx w') := fun wx => by
    have := valid_any t' l' wx
    rw [h'] at this
    exact this
  clear h h'
  go_enter Try.func39, Try.ntmps39
  go_upto_region 1 with fail
  obtain ⟨X, hX, hwX, hz, k0, k1, k2, k3, hW⟩ := boxes3 w (.int .i64 t) (.int .i64 l) (.int .i64 t') (.int .i64 l') (.int .i64 0) (.int .i64 0)
  rw [hX]
  clear hX
  have h0 : w.heap.size < X.heap.size := by omega
  have h1 : w.heap.size + 1 < X.heap.size := by omega
  clear hz
  go_wp2_with fail
  (with_reducible refine (HV.out X).mono ?_)
  rintro e w1 ⟨rfl, hB1⟩
  have l0 := (hB1.cell (p := ⟨w.heap.size, 0, none⟩) h0).trans k0
  have l1 := (hB1.cell (p := ⟨w.heap.size, 1, none⟩) h0).trans k1
  have l2 := (hB1.cell (p := ⟨w.heap.size + 1, 0, none⟩) h1).trans k2
  have l3 := (hB1.cell (p := ⟨w.heap.size + 1, 1, none⟩) h1).trans k3
  clear k0 k1 k2 k3 h0 h1
  go_wp2_with fail
  (with_reducible refine (HV'.out w1).mono ?_)
  rintro e w2 ⟨rfl, hB2⟩
  have hB := below_trans_same hB1 hB2
  have B2 := hwX.trans (hB.mono hwX.size)
  obtain ⟨⟨p1, p2, p3, p4⟩, p5, p6, p7⟩ := hW.keep hB
  clear l0 l1 l2 l3 
  go_wp2_with fail
  exact bodyPost_ret (v := .tuple #[.agg #[.int .i64 0, .int .i64 0], .int .i64 1]) (by simp [results, Try.results39, go_sem, *]) rfl ⟨rfl, (B2.setCell (by show w.heap.size ≤ w.heap.size + 2; omega) _).setCell (by show w.heap.size ≤ w.heap.size + 2; omega) _⟩

theorem outN_shape (z : Rat) : ∃ u1 u2 q, outN z = .tuple #[.agg #[.int .i64 u1, .int .i64 u2], .int .i64 q] := by
  unfold outN
  split
  · exact ⟨_, _, _, rfl⟩
  · exact ⟨_, _, _, rfl⟩

set_option maxRecDepth 100000 in
set_option maxHeartbeats 2000000 in
theorem operate_55 (x y z : Rat) (w : World) (h : vld x.num (x.den : Int) = true) (h' : vld y.num (y.den : Int) = true) (hz1 : z.num.natAbs < W ^ 1000) (hz2 : z.den < W ^ 1000)
    (HF : Hid (∀ wx A n c B m d A' n' c' B' m' d', D wx (.slice A n c) x.num.natAbs → D wx (.slice B m d) x.den → D wx (.slice A' n' c') y.num.natAbs → D wx (.slice B' m' d') y.den →
      Calls Try.prog 55 #[.agg #[.bool (decide (x.num < 0)), .slice A n c, .bool false, .slice B m d], .agg #[.bool (decide (y.num < 0)), .slice A' n' c', .bool false, .slice B' m' d']] wx (RetR z wx))) :
    Calls Try.prog 39 #[.agg #[.int .i64 x.num, .int .i64 (x.den : Int)], .agg #[.int .i64 y.num, .int .i64 (y.den : Int)], .func (.func 55) #[] #[]] w fun e w' => e = .returned (outN z) ∧ Below w.heap.size w w' := by
  have HV : Hid (∀ wx, Calls Try.prog 35 #[.agg #[.int .i64 x.num, .int .i64 (x.den : Int)]] wx fun e w' => e = .returned (.bool true) ∧ Below wx.heap.size wx w') := fun wx => by
    have := valid_any x.num (x.den : Int) wx
    rw [h] at this
    exact this
  have HV' : Hid (∀ wx, Calls Try.prog 35 #[.agg #[.int .i64 y.num, .int .i64 (y.den : Int)]] wx fun e w' => e = .returned (.bool true) ∧ Below wx.heap.size wx w') := fun wx => by
    have := valid_any y.num (y.den : Int) wx
    rw [h'] at this
    exact this
  have HO1 : Hid (∀ wx, Calls Try.prog 37 #[.agg #[.int .i64 x.num, .int .i64 (x.den : Int)]] wx (RetR x wx)) := fun wx => of_any x wx (vld_num h).1 (vld_num h).2.1 (vld_num h).2.2
  have HO2 : Hid (∀ wx, Calls Try.prog 37 #[.agg #[.int .i64 y.num, .int .i64 (y.den : Int)]] wx (RetR y wx)) := fun wx => of_any y wx (vld_num h').1 (vld_num h').2.1 (vld_num h').2.2
  obtain ⟨u1, u2, q, hout⟩ := outN_shape z
  have HN : Hid (∀ wx A n c B m d, D wx (.slice A n c) z.num.natAbs → D wx (.slice B m d) z.den → Calls Try.prog 34 #[.agg #[.bool (decide (z.num < 0)), .slice A n c, .bool false, .slice B m d]] wx fun e w' => e = .returned (.tuple #[.agg #[.int .i64 u1, .int .i64 u2], .int .i64 q]) ∧ Below wx.heap.size wx w') := fun wx A n c B m d k1 k2 => by
    have e1 := k1.len hz1
    have e2 := k2.len hz2
    have := num_any (decide (z.num < 0)) A B n c m d z wx ⟨rfl, k1, k2⟩ (by omega) (by omega)
    rw [hout] at this
    exact this
  rw [hout]
  clear h h' hz1 hz2 hout
  go_enter Try.func39, Try.ntmps39
  go_upto_region 1 with fail
  obtain ⟨X, hX, hwX, hz, k0, k1, k2, k3, hW⟩ := boxes3 w (.int .i64 x.num) (.int .i64 (x.den : Int)) (.int .i64 y.num) (.int .i64 (y.den : Int)) (.int .i64 0) (.int .i64 0)
  rw [hX]
  clear hX
  have h0 : w.heap.size < X.heap.size := by omega
  have h1 : w.heap.size + 1 < X.heap.size := by omega
  clear hz
  go_wp2_with fail
  (with_reducible refine (HV.out X).mono ?_)
  rintro e w1 ⟨rfl, hB1⟩
  have l0 := (hB1.cell (p := ⟨w.heap.size, 0, none⟩) h0).trans k0
  have l1 := (hB1.cell (p := ⟨w.heap.size, 1, none⟩) h0).trans k1
  have l2 := (hB1.cell (p := ⟨w.heap.size + 1, 0, none⟩) h1).trans k2
  have l3 := (hB1.cell (p := ⟨w.heap.size + 1, 1, none⟩) h1).trans k3
  have h0 := Nat.lt_of_lt_of_le h0 hB1.size
  have h1 := Nat.lt_of_lt_of_le h1 hB1.size
  have HB1 := Lib.hid hB1
  clear k0 k1 k2 k3 hB1
  have H0 := Lib.hid h0
  have H1 := Lib.hid h1
  clear h0 h1
  go_wp2_with fail
  (with_reducible refine (HV'.out w1).mono ?_)
  rintro e w2 ⟨rfl, hB2⟩
  have k0 := (hB2.cell (p := ⟨w.heap.size, 0, none⟩) H0.out).trans l0
  have k1 := (hB2.cell (p := ⟨w.heap.size, 1, none⟩) H0.out).trans l1
  have k2 := (hB2.cell (p := ⟨w.heap.size + 1, 0, none⟩) H1.out).trans l2
  have k3 := (hB2.cell (p := ⟨w.heap.size + 1, 1, none⟩) H1.out).trans l3
  have h0 := Nat.lt_of_lt_of_le H0.out hB2.size
  have h1 := Nat.lt_of_lt_of_le H1.out hB2.size
  have hB := below_trans_same HB1.out hB2
  have hw2 := hwX.trans (hB.mono hwX.size)
  have hW2 := hW.keep hB
  clear l0 l1 l2 l3 hB2 hB HB1 hW H0 H1 HV HV' hwX
  go_upto_region 3 with fail
  go_region_held3 (fun w' => w'.cell? ⟨w.heap.size, 0, none⟩ = some (.int .i64 x.num) ∧ w'.cell? ⟨w.heap.size, 1, none⟩ = some (.int .i64 (x.den : Int)) ∧ w'.cell? ⟨w.heap.size + 1, 0, none⟩ = some (.int .i64 y.num) ∧ w'.cell? ⟨w.heap.size + 1, 1, none⟩ = some (.int .i64 (y.den : Int))) (simp [go_sem, *])
    (first
      | (go_at_call 37; (with_reducible refine (HO1.out _).mono ?_); rintro e w3 ⟨A, n, c, B, m, d, rfl, hD1, hE1, hB3⟩; (have R3 : Below w2.heap.size w2 w3 := by first | exact hB3 | exact below_undrew' hB3); have C3 := (bcell R3).1)
      | (go_at_call 37; (with_reducible refine (HO2.out _).mono ?_); rintro e w4 ⟨A', n', c', B', m', d', rfl, hD2, hE2, hB4⟩; (have S4 : Below w3.heap.size w3 w4 := by first | exact hB4 | exact below_undrew' hB4); have R4 := stepB R3 S4; have C4 := (bcell R4).1; have hD1' := hD1.keep S4; have hE1' := hE1.keep S4)
      | (go_at_call 55; (with_reducible refine (HF.out _ A n c B m d A' n' c' B' m' d' (by first | exact hD1' | exact D.drew hD1') (by first | exact hE1' | exact D.drew hE1') (by first | exact hD2 | exact D.drew hD2) (by first | exact hE2 | exact D.drew hE2)).mono ?_); rintro e w5 ⟨A1, n1, c1, B1, m1, d1, rfl, hD3, hE3, hB5⟩; (have S5 : Below w4.heap.size w4 w5 := by first | exact hB5 | exact below_undrew' hB5); have R5 := stepB R4 S5; have C5 := (bcell R5).1)
      | (go_at_call 34; (with_reducible refine (HN.out _ A1 n1 c1 B1 m1 d1 (by first | exact hD3 | exact D.drew hD3) (by first | exact hE3 | exact D.drew hE3)).mono ?_); rintro e w6 ⟨rfl, hB6⟩; (have S6 : Below w5.heap.size w5 w6 := by first | exact hB6 | exact below_undrew' hB6); have R6 := stepB R5 S6; have C6 := (bcell R6).1; obtain ⟨⟨p1, p2, p3, p4⟩, p5, p6, p7⟩ := hW2.keep R6))
  all_goals go_wp2_with fail
  exact bodyPost_ret (v := .tuple #[.agg #[.int .i64 u1, .int .i64 u2], .int .i64 q]) (by simp [results, Try.results39, go_sem, *]) rfl ⟨rfl, ((hw2.trans (R6.mono hw2.size)).setCell (by show w.heap.size ≤ w.heap.size + 2; omega) _).setCell (by show w.heap.size ≤ w.heap.size + 2; omega) _⟩

set_option maxRecDepth 100000 in
set_option maxHeartbeats 2000000 in
theorem operate_56 (x y z : Rat) (w : World) (h : vld x.num (x.den : Int) = true) (h' : vld y.num (y.den : Int) = true) (hz1 : z.num.natAbs < W ^ 1000) (hz2 : z.den < W ^ 1000)
    (HF : Hid (∀ wx A n c B m d A' n' c' B' m' d', D wx (.slice A n c) x.num.natAbs → D wx (.slice B m d) x.den → D wx (.slice A' n' c') y.num.natAbs → D wx (.slice B' m' d') y.den →
      Calls Try.prog 56 #[.agg #[.bool (decide (x.num < 0)), .slice A n c, .bool false, .slice B m d], .agg #[.bool (decide (y.num < 0)), .slice A' n' c', .bool false, .slice B' m' d']] wx (RetR z wx))) :
    Calls Try.prog 39 #[.agg #[.int .i64 x.num, .int .i64 (x.den : Int)], .agg #[.int .i64 y.num, .int .i64 (y.den : Int)], .func (.func 56) #[] #[]] w fun e w' => e = .returned (outN z) ∧ Below w.heap.size w w' := by
  have HV : Hid (∀ wx, Calls Try.prog 35 #[.agg #[.int .i64 x.num, .int .i64 (x.den : Int)]] wx fun e w' => e = .returned (.bool true) ∧ Below wx.heap.size wx w') := fun wx => by
    have := valid_any x.num (x.den : Int) wx
    rw [h] at this
    exact this
  have HV' : Hid (∀ wx, Calls Try.prog 35 #[.agg #[.int .i64 y.num, .int .i64 (y.den : Int)]] wx fun e w' => e = .returned (.bool true) ∧ Below wx.heap.size wx w') := fun wx => by
    have := valid_any y.num (y.den : Int) wx
    rw [h'] at this
    exact this
  have HO1 : Hid (∀ wx, Calls Try.prog 37 #[.agg #[.int .i64 x.num, .int .i64 (x.den : Int)]] wx (RetR x wx)) := fun wx => of_any x wx (vld_num h).1 (vld_num h).2.1 (vld_num h).2.2
  have HO2 : Hid (∀ wx, Calls Try.prog 37 #[.agg #[.int .i64 y.num, .int .i64 (y.den : Int)]] wx (RetR y wx)) := fun wx => of_any y wx (vld_num h').1 (vld_num h').2.1 (vld_num h').2.2
  obtain ⟨u1, u2, q, hout⟩ := outN_shape z
  have HN : Hid (∀ wx A n c B m d, D wx (.slice A n c) z.num.natAbs → D wx (.slice B m d) z.den → Calls Try.prog 34 #[.agg #[.bool (decide (z.num < 0)), .slice A n c, .bool false, .slice B m d]] wx fun e w' => e = .returned (.tuple #[.agg #[.int .i64 u1, .int .i64 u2], .int .i64 q]) ∧ Below wx.heap.size wx w') := fun wx A n c B m d k1 k2 => by
    have e1 := k1.len hz1
    have e2 := k2.len hz2
    have := num_any (decide (z.num < 0)) A B n c m d z wx ⟨rfl, k1, k2⟩ (by omega) (by omega)
    rw [hout] at this
    exact this
  rw [hout]
  clear h h' hz1 hz2 hout
  go_enter Try.func39, Try.ntmps39
  go_upto_region 1 with fail
  obtain ⟨X, hX, hwX, hz, k0, k1, k2, k3, hW⟩ := boxes3 w (.int .i64 x.num) (.int .i64 (x.den : Int)) (.int .i64 y.num) (.int .i64 (y.den : Int)) (.int .i64 0) (.int .i64 0)
  rw [hX]
  clear hX
  have h0 : w.heap.size < X.heap.size := by omega
  have h1 : w.heap.size + 1 < X.heap.size := by omega
  clear hz
  go_wp2_with fail
  (with_reducible refine (HV.out X).mono ?_)
  rintro e w1 ⟨rfl, hB1⟩
  have l0 := (hB1.cell (p := ⟨w.heap.size, 0, none⟩) h0).trans k0
  have l1 := (hB1.cell (p := ⟨w.heap.size, 1, none⟩) h0).trans k1
  have l2 := (hB1.cell (p := ⟨w.heap.size + 1, 0, none⟩) h1).trans k2
  have l3 := (hB1.cell (p := ⟨w.heap.size + 1, 1, none⟩) h1).trans k3
  have h0 := Nat.lt_of_lt_of_le h0 hB1.size
  have h1 := Nat.lt_of_lt_of_le h1 hB1.size
  have HB1 := Lib.hid hB1
  clear k0 k1 k2 k3 hB1
  have H0 := Lib.hid h0
  have H1 := Lib.hid h1
  clear h0 h1
  go_wp2_with fail
  (with_reducible refine (HV'.out w1).mono ?_)
  rintro e w2 ⟨rfl, hB2⟩
  have k0 := (hB2.cell (p := ⟨w.heap.size, 0, none⟩) H0.out).trans l0
  have k1 := (hB2.cell (p := ⟨w.heap.size, 1, none⟩) H0.out).trans l1
  have k2 := (hB2.cell (p := ⟨w.heap.size + 1, 0, none⟩) H1.out).trans l2
  have k3 := (hB2.cell (p := ⟨w.heap.size + 1, 1, none⟩) H1.out).trans l3
  have h0 := Nat.lt_of_lt_of_le H0.out hB2.size
  have h1 := Nat.lt_of_lt_of_le H1.out hB2.size
  have hB := below_trans_same HB1.out hB2
  have hw2 := hwX.trans (hB.mono hwX.size)
  have hW2 := hW.keep hB
  clear l0 l1 l2 l3 hB2 hB HB1 hW H0 H1 HV HV' hwX
  go_upto_region 3 with fail
  go_region_held3 (fun w' => w'.cell? ⟨w.heap.size, 0, none⟩ = some (.int .i64 x.num) ∧ w'.cell? ⟨w.heap.size, 1, none⟩ = some (.int .i64 (x.den : Int)) ∧ w'.cell? ⟨w.heap.size + 1, 0, none⟩ = some (.int .i64 y.num) ∧ w'.cell? ⟨w.heap.size + 1, 1, none⟩ = some (.int .i64 (y.den : Int))) (simp [go_sem, *])
    (first
      | (go_at_call 37; (with_reducible refine (HO1.out _).mono ?_); rintro e w3 ⟨A, n, c, B, m, d, rfl, hD1, hE1, hB3⟩; (have R3 : Below w2.heap.size w2 w3 := by first | exact hB3 | exact below_undrew' hB3); have C3 := (bcell R3).1)
      | (go_at_call 37; (with_reducible refine (HO2.out _).mono ?_); rintro e w4 ⟨A', n', c', B', m', d', rfl, hD2, hE2, hB4⟩; (have S4 : Below w3.heap.size w3 w4 := by first | exact hB4 | exact below_undrew' hB4); have R4 := stepB R3 S4; have C4 := (bcell R4).1; have hD1' := hD1.keep S4; have hE1' := hE1.keep S4)
      | (go_at_call 56; (with_reducible refine (HF.out _ A n c B m d A' n' c' B' m' d' (by first | exact hD1' | exact D.drew hD1') (by first | exact hE1' | exact D.drew hE1') (by first | exact hD2 | exact D.drew hD2) (by first | exact hE2 | exact D.drew hE2)).mono ?_); rintro e w5 ⟨A1, n1, c1, B1, m1, d1, rfl, hD3, hE3, hB5⟩; (have S5 : Below w4.heap.size w4 w5 := by first | exact hB5 | exact below_undrew' hB5); have R5 := stepB R4 S5; have C5 := (bcell R5).1)
      | (go_at_call 34; (with_reducible refine (HN.out _ A1 n1 c1 B1 m1 d1 (by first | exact hD3 | exact D.drew hD3) (by first | exact hE3 | exact D.drew hE3)).mono ?_); rintro e w6 ⟨rfl, hB6⟩; (have S6 : Below w5.heap.size w5 w6 := by first | exact hB6 | exact below_undrew' hB6); have R6 := stepB R5 S6; have C6 := (bcell R6).1; obtain ⟨⟨p1, p2, p3, p4⟩, p5, p6, p7⟩ := hW2.keep R6))
  all_goals go_wp2_with fail
  exact bodyPost_ret (v := .tuple #[.agg #[.int .i64 u1, .int .i64 u2], .int .i64 q]) (by simp [results, Try.results39, go_sem, *]) rfl ⟨rfl, ((hw2.trans (R6.mono hw2.size)).setCell (by show w.heap.size ≤ w.heap.size + 2; omega) _).setCell (by show w.heap.size ≤ w.heap.size + 2; omega) _⟩

set_option maxRecDepth 100000 in
set_option maxHeartbeats 2000000 in
theorem operate_38 (x y z : Rat) (w : World) (h : vld x.num (x.den : Int) = true) (h' : vld y.num (y.den : Int) = true) (hz1 : z.num.natAbs < W ^ 1000) (hz2 : z.den < W ^ 1000)
    (HF : Hid (∀ wx A n c B m d A' n' c' B' m' d', D wx (.slice A n c) x.num.natAbs → D wx (.slice B m d) x.den → D wx (.slice A' n' c') y.num.natAbs → D wx (.slice B' m' d') y.den →
      Calls Try.prog 38 #[.agg #[.bool (decide (x.num < 0)), .slice A n c, .bool false, .slice B m d], .agg #[.bool (decide (y.num < 0)), .slice A' n' c', .bool false, .slice B' m' d']] wx (RetR z wx))) :
    Calls Try.prog 39 #[.agg #[.int .i64 x.num, .int .i64 (x.den : Int)], .agg #[.int .i64 y.num, .int .i64 (y.den : Int)], .func (.func 38) #[] #[]] w fun e w' => e = .returned (outN z) ∧ Below w.heap.size w w' := by
  have HV : Hid (∀ wx, Calls Try.prog 35 #[.agg #[.int .i64 x.num, .int .i64 (x.den : Int)]] wx fun e w' => e = .returned (.bool true) ∧ Below wx.heap.size wx w') := fun wx => by
    have := valid_any x.num (x.den : Int) wx
    rw [h] at this
    exact this
  have HV' : Hid (∀ wx, Calls Try.prog 35 #[.agg #[.int .i64 y.num, .int .i64 (y.den : Int)]] wx fun e w' => e = .returned (.bool true) ∧ Below wx.heap.size wx w') := fun wx => by
    have := valid_any y.num (y.den : Int) wx
    rw [h'] at this
    exact this
  have HO1 : Hid (∀ wx, Calls Try.prog 37 #[.agg #[.int .i64 x.num, .int .i64 (x.den : Int)]] wx (RetR x wx)) := fun wx => of_any x wx (vld_num h).1 (vld_num h).2.1 (vld_num h).2.2
  have HO2 : Hid (∀ wx, Calls Try.prog 37 #[.agg #[.int .i64 y.num, .int .i64 (y.den : Int)]] wx (RetR y wx)) := fun wx => of_any y wx (vld_num h').1 (vld_num h').2.1 (vld_num h').2.2
  obtain ⟨u1, u2, q, hout⟩ := outN_shape z
  have HN : Hid (∀ wx A n c B m d, D wx (.slice A n c) z.num.natAbs → D wx (.slice B m d) z.den → Calls Try.prog 34 #[.agg #[.bool (decide (z.num < 0)), .slice A n c, .bool false, .slice B m d]] wx fun e w' => e = .returned (.tuple #[.agg #[.int .i64 u1, .int .i64 u2], .int .i64 q]) ∧ Below wx.heap.size wx w') := fun wx A n c B m d k1 k2 => by
    have e1 := k1.len hz1
    have e2 := k2.len hz2
    have := num_any (decide (z.num < 0)) A B n c m d z wx ⟨rfl, k1, k2⟩ (by omega) (by omega)
    rw [hout] at this
    exact this
  rw [hout]
  clear h h' hz1 hz2 hout
  go_enter Try.func39, Try.ntmps39
  go_upto_region 1 with fail
  obtain ⟨X, hX, hwX, hz, k0, k1, k2, k3, hW⟩ := boxes3 w (.int .i64 x.num) (.int .i64 (x.den : Int)) (.int .i64 y.num) (.int .i64 (y.den : Int)) (.int .i64 0) (.int .i64 0)
  rw [hX]
  clear hX
  have h0 : w.heap.size < X.heap.size := by omega
  have h1 : w.heap.size + 1 < X.heap.size := by omega
  clear hz
  go_wp2_with fail
  (with_reducible refine (HV.out X).mono ?_)
  rintro e w1 ⟨rfl, hB1⟩
  have l0 := (hB1.cell (p := ⟨w.heap.size, 0, none⟩) h0).trans k0
  have l1 := (hB1.cell (p := ⟨w.heap.size, 1, none⟩) h0).trans k1
  have l2 := (hB1.cell (p := ⟨w.heap.size + 1, 0, none⟩) h1).trans k2
  have l3 := (hB1.cell (p := ⟨w.heap.size + 1, 1, none⟩) h1).trans k3
  have h0 := Nat.lt_of_lt_of_le h0 hB1.size
  have h1 := Nat.lt_of_lt_of_le h1 hB1.size
  have HB1 := Lib.hid hB1
  clear k0 k1 k2 k3 hB1
  have H0 := Lib.hid h0
  have H1 := Lib.hid h1
  clear h0 h1
  go_wp2_with fail
  (with_reducible refine (HV'.out w1).mono ?_)
  rintro e w2 ⟨rfl, hB2⟩
  have k0 := (hB2.cell (p := ⟨w.heap.size, 0, none⟩) H0.out).trans l0
  have k1 := (hB2.cell (p := ⟨w.heap.size, 1, none⟩) H0.out).trans l1
  have k2 := (hB2.cell (p := ⟨w.heap.size + 1, 0, none⟩) H1.out).trans l2
  have k3 := (hB2.cell (p := ⟨w.heap.size + 1, 1, none⟩) H1.out).trans l3
  have h0 := Nat.lt_of_lt_of_le H0.out hB2.size
  have h1 := Nat.lt_of_lt_of_le H1.out hB2.size
  have hB := below_trans_same HB1.out hB2
  have hw2 := hwX.trans (hB.mono hwX.size)
  have hW2 := hW.keep hB
  clear l0 l1 l2 l3 hB2 hB HB1 hW H0 H1 HV HV' hwX
  go_upto_region 3 with fail
  go_region_held3 (fun w' => w'.cell? ⟨w.heap.size, 0, none⟩ = some (.int .i64 x.num) ∧ w'.cell? ⟨w.heap.size, 1, none⟩ = some (.int .i64 (x.den : Int)) ∧ w'.cell? ⟨w.heap.size + 1, 0, none⟩ = some (.int .i64 y.num) ∧ w'.cell? ⟨w.heap.size + 1, 1, none⟩ = some (.int .i64 (y.den : Int))) (simp [go_sem, *])
    (first
      | (go_at_call 37; (with_reducible refine (HO1.out _).mono ?_); rintro e w3 ⟨A, n, c, B, m, d, rfl, hD1, hE1, hB3⟩; (have R3 : Below w2.heap.size w2 w3 := by first | exact hB3 | exact below_undrew' hB3); have C3 := (bcell R3).1)
      | (go_at_call 37; (with_reducible refine (HO2.out _).mono ?_); rintro e w4 ⟨A', n', c', B', m', d', rfl, hD2, hE2, hB4⟩; (have S4 : Below w3.heap.size w3 w4 := by first | exact hB4 | exact below_undrew' hB4); have R4 := stepB R3 S4; have C4 := (bcell R4).1; have hD1' := hD1.keep S4; have hE1' := hE1.keep S4)
      | (go_at_call 38; (with_reducible refine (HF.out _ A n c B m d A' n' c' B' m' d' (by first | exact hD1' | exact D.drew hD1') (by first | exact hE1' | exact D.drew hE1') (by first | exact hD2 | exact D.drew hD2) (by first | exact hE2 | exact D.drew hE2)).mono ?_); rintro e w5 ⟨A1, n1, c1, B1, m1, d1, rfl, hD3, hE3, hB5⟩; (have S5 : Below w4.heap.size w4 w5 := by first | exact hB5 | exact below_undrew' hB5); have R5 := stepB R4 S5; have C5 := (bcell R5).1)
      | (go_at_call 34; (with_reducible refine (HN.out _ A1 n1 c1 B1 m1 d1 (by first | exact hD3 | exact D.drew hD3) (by first | exact hE3 | exact D.drew hE3)).mono ?_); rintro e w6 ⟨rfl, hB6⟩; (have S6 : Below w5.heap.size w5 w6 := by first | exact hB6 | exact below_undrew' hB6); have R6 := stepB R5 S6; have C6 := (bcell R6).1; obtain ⟨⟨p1, p2, p3, p4⟩, p5, p6, p7⟩ := hW2.keep R6))
  all_goals go_wp2_with fail
  exact bodyPost_ret (v := .tuple #[.agg #[.int .i64 u1, .int .i64 u2], .int .i64 q]) (by simp [results, Try.results39, go_sem, *]) rfl ⟨rfl, ((hw2.trans (R6.mono hw2.size)).setCell (by show w.heap.size ≤ w.heap.size + 2; omega) _).setCell (by show w.heap.size ≤ w.heap.size + 2; omega) _⟩

set_option maxRecDepth 100000 in
set_option maxHeartbeats 2000000 in
theorem operate_57 (x y z : Rat) (w : World) (h : vld x.num (x.den : Int) = true) (h' : vld y.num (y.den : Int) = true) (hz1 : z.num.natAbs < W ^ 1000) (hz2 : z.den < W ^ 1000)
    (HF : Hid (∀ wx A n c B m d A' n' c' B' m' d', D wx (.slice A n c) x.num.natAbs → D wx (.slice B m d) x.den → D wx (.slice A' n' c') y.num.natAbs → D wx (.slice B' m' d') y.den →
      Calls Try.prog 57 #[.agg #[.bool (decide (x.num < 0)), .slice A n c, .bool false, .slice B m d], .agg #[.bool (decide (y.num < 0)), .slice A' n' c', .bool false, .slice B' m' d']] wx (RetR z wx))) :
    Calls Try.prog 39 #[.agg #[.int .i64 x.num, .int .i64 (x.den : Int)], .agg #[.int .i64 y.num, .int .i64 (y.den : Int)], .func (.func 57) #[] #[]] w fun e w' => e = .returned (outN z) ∧ Below w.heap.size w w' := by
  have HV : Hid (∀ wx, Calls Try.prog 35 #[.agg #[.int .i64 x.num, .int .i64 (x.den : Int)]] wx fun e w' => e = .returned (.bool true) ∧ Below wx.heap.size wx w') := fun wx => by
    have := valid_any x.num (x.den : Int) wx
    rw [h] at this
    exact this
  have HV' : Hid (∀ wx, Calls Try.prog 35 #[.agg #[.int .i64 y.num, .int .i64 (y.den : Int)]] wx fun e w' => e = .returned (.bool true) ∧ Below wx.heap.size wx w') := fun wx => by
    have := valid_any y.num (y.den : Int) wx
    rw [h'] at this
    exact this
  have HO1 : Hid (∀ wx, Calls Try.prog 37 #[.agg #[.int .i64 x.num, .int .i64 (x.den : Int)]] wx (RetR x wx)) := fun wx => of_any x wx (vld_num h).1 (vld_num h).2.1 (vld_num h).2.2
  have HO2 : Hid (∀ wx, Calls Try.prog 37 #[.agg #[.int .i64 y.num, .int .i64 (y.den : Int)]] wx (RetR y wx)) := fun wx => of_any y wx (vld_num h').1 (vld_num h').2.1 (vld_num h').2.2
  obtain ⟨u1, u2, q, hout⟩ := outN_shape z
  have HN : Hid (∀ wx A n c B m d, D wx (.slice A n c) z.num.natAbs → D wx (.slice B m d) z.den → Calls Try.prog 34 #[.agg #[.bool (decide (z.num < 0)), .slice A n c, .bool false, .slice B m d]] wx fun e w' => e = .returned (.tuple #[.agg #[.int .i64 u1, .int .i64 u2], .int .i64 q]) ∧ Below wx.heap.size wx w') := fun wx A n c B m d k1 k2 => by
    have e1 := k1.len hz1
    have e2 := k2.len hz2
    have := num_any (decide (z.num < 0)) A B n c m d z wx ⟨rfl, k1, k2⟩ (by omega) (by omega)
    rw [hout] at this
    exact this
  rw [hout]
  clear h h' hz1 hz2 hout
  go_enter Try.func39, Try.ntmps39
  go_upto_region 1 with fail
  obtain ⟨X, hX, hwX, hz, k0, k1, k2, k3, hW⟩ := boxes3 w (.int .i64 x.num) (.int .i64 (x.den : Int)) (.int .i64 y.num) (.int .i64 (y.den : Int)) (.int .i64 0) (.int .i64 0)
  rw [hX]
  clear hX
  have h0 : w.heap.size < X.heap.size := by omega
  have h1 : w.heap.size + 1 < X.heap.size := by omega
  clear hz
  go_wp2_with fail
  (with_reducible refine (HV.out X).mono ?_)
  rintro e w1 ⟨rfl, hB1⟩
  have l0 := (hB1.cell (p := ⟨w.heap.size, 0, none⟩) h0).trans k0
  have l1 := (hB1.cell (p := ⟨w.heap.size, 1, none⟩) h0).trans k1
  have l2 := (hB1.cell (p := ⟨w.heap.size + 1, 0, none⟩) h1).trans k2
  have l3 := (hB1.cell (p := ⟨w.heap.size + 1, 1, none⟩) h1).trans k3
  have h0 := Nat.lt_of_lt_of_le h0 hB1.size
  have h1 := Nat.lt_of_lt_of_le h1 hB1.size
  have HB1 := Lib.hid hB1
  clear k0 k1 k2 k3 hB1
  have H0 := Lib.hid h0
  have H1 := Lib.hid h1
  clear h0 h1
  go_wp2_with fail
  (with_reducible refine (HV'.out w1).mono ?_)
  rintro e w2 ⟨rfl, hB2⟩
  have k0 := (hB2.cell (p := ⟨w.heap.size, 0, none⟩) H0.out).trans l0
  have k1 := (hB2.cell (p := ⟨w.heap.size, 1, none⟩) H0.out).trans l1
  have k2 := (hB2.cell (p := ⟨w.heap.size + 1, 0, none⟩) H1.out).trans l2
  have k3 := (hB2.cell (p := ⟨w.heap.size + 1, 1, none⟩) H1.out).trans l3
  have h0 := Nat.lt_of_lt_of_le H0.out hB2.size
  have h1 := Nat.lt_of_lt_of_le H1.out hB2.size
  have hB := below_trans_same HB1.out hB2
  have hw2 := hwX.trans (hB.mono hwX.size)
  have hW2 := hW.keep hB
  clear l0 l1 l2 l3 hB2 hB HB1 hW H0 H1 HV HV' hwX
  go_upto_region 3 with fail
  go_region_held3 (fun w' => w'.cell? ⟨w.heap.size, 0, none⟩ = some (.int .i64 x.num) ∧ w'.cell? ⟨w.heap.size, 1, none⟩ = some (.int .i64 (x.den : Int)) ∧ w'.cell? ⟨w.heap.size + 1, 0, none⟩ = some (.int .i64 y.num) ∧ w'.cell? ⟨w.heap.size + 1, 1, none⟩ = some (.int .i64 (y.den : Int))) (simp [go_sem, *])
    (first
      | (go_at_call 37; (with_reducible refine (HO1.out _).mono ?_); rintro e w3 ⟨A, n, c, B, m, d, rfl, hD1, hE1, hB3⟩; (have R3 : Below w2.heap.size w2 w3 := by first | exact hB3 | exact below_undrew' hB3); have C3 := (bcell R3).1)
      | (go_at_call 37; (with_reducible refine (HO2.out _).mono ?_); rintro e w4 ⟨A', n', c', B', m', d', rfl, hD2, hE2, hB4⟩; (have S4 : Below w3.heap.size w3 w4 := by first | exact hB4 | exact below_undrew' hB4); have R4 := stepB R3 S4; have C4 := (bcell R4).1; have hD1' := hD1.keep S4; have hE1' := hE1.keep S4)
      | (go_at_call 57; (with_reducible refine (HF.out _ A n c B m d A' n' c' B' m' d' (by first | exact hD1' | exact D.drew hD1') (by first | exact hE1' | exact D.drew hE1') (by first | exact hD2 | exact D.drew hD2) (by first | exact hE2 | exact D.drew hE2)).mono ?_); rintro e w5 ⟨A1, n1, c1, B1, m1, d1, rfl, hD3, hE3, hB5⟩; (have S5 : Below w4.heap.size w4 w5 := by first | exact hB5 | exact below_undrew' hB5); have R5 := stepB R4 S5; have C5 := (bcell R5).1)
      | (go_at_call 34; (with_reducible refine (HN.out _ A1 n1 c1 B1 m1 d1 (by first | exact hD3 | exact D.drew hD3) (by first | exact hE3 | exact D.drew hE3)).mono ?_); rintro e w6 ⟨rfl, hB6⟩; (have S6 : Below w5.heap.size w5 w6 := by first | exact hB6 | exact below_undrew' hB6); have R6 := stepB R5 S6; have C6 := (bcell R6).1; obtain ⟨⟨p1, p2, p3, p4⟩, p5, p6, p7⟩ := hW2.keep R6))
  all_goals go_wp2_with fail
  exact bodyPost_ret (v := .tuple #[.agg #[.int .i64 u1, .int .i64 u2], .int .i64 q]) (by simp [results, Try.results39, go_sem, *]) rfl ⟨rfl, ((hw2.trans (R6.mono hw2.size)).setCell (by show w.heap.size ≤ w.heap.size + 2; omega) _).setCell (by show w.heap.size ≤ w.heap.size + 2; omega) _⟩

end Go.Proofs.Ytfhmhkbjcccejaa

namespace Go.Proofs.Ytfhmhkbjcccejaa
open Go.RowKit

set_option maxRecDepth 100000 in
set_option maxHeartbeats 2000000 in
theorem call_24 (t l t' l' p1 p2 q : Int) (w : World)
    (HC : Hid (∀ wx, Calls Try.prog 39 #[.agg #[.int .i64 t, .int .i64 l], .agg #[.int .i64 t', .int .i64 l'], .func (.func 55) #[] #[]] wx fun e w' => e = .returned (.tuple #[.agg #[.int .i64 p1, .int .i64 p2], .int .i64 q]) ∧ Below wx.heap.size wx w')) :
    Calls Try.prog 24 #[.agg #[.int .i64 t, .int .i64 l], .agg #[.int .i64 t', .int .i64 l']] w fun e w' => e = .returned (.tuple #[.agg #[.int .i64 p1, .int .i64 p2], .int .i64 q]) ∧ Below w.heap.size w w' := by
  go_enter Try.func24, Try.ntmps24
  go_upto_region 1 with fail
  obtain ⟨X, hX, hwX, hz, k0, k1, k2, k3, hW⟩ := boxes3 w (.int .i64 t) (.int .i64 l) (.int .i64 t') (.int .i64 l') (.int .i64 0) (.int .i64 0)
  rw [hX]
  clear hX hz
  go_wp2_with fail
  (with_reducible refine (HC.out X).mono ?_)
  rintro e w1 ⟨rfl, hB1⟩
  have B1 := hwX.trans (hB1.mono hwX.size)
  obtain ⟨⟨c1, c2, c3, c4⟩, c5, c6, c7⟩ := hW.keep hB1
  clear k0 k1 k2 k3
  go_wp2_with fail
  exact bodyPost_ret (v := .tuple #[.agg #[.int .i64 p1, .int .i64 p2], .int .i64 q]) (by simp [results, Try.results24, go_sem, *]) rfl ⟨rfl, (B1.setCell (by show w.heap.size ≤ w.heap.size + 2; omega) _).setCell (by show w.heap.size ≤ w.heap.size + 2; omega) _⟩

set_option maxRecDepth 100000 in
set_option maxHeartbeats 2000000 in
theorem call_25 (t l t' l' p1 p2 q : Int) (w : World)
    (HC : Hid (∀ wx, Calls Try.prog 39 #[.agg #[.int .i64 t, .int .i64 l], .agg #[.int .i64 t', .int .i64 l'], .func (.func 56) #[] #[]] wx fun e w' => e = .returned (.tuple #[.agg #[.int .i64 p1, .int .i64 p2], .int .i64 q]) ∧ Below wx.heap.size wx w')) :
    Calls Try.prog 25 #[.agg #[.int .i64 t, .int .i64 l], .agg #[.int .i64 t', .int .i64 l']] w fun e w' => e = .returned (.tuple #[.agg #[.int .i64 p1, .int .i64 p2], .int .i64 q]) ∧ Below w.heap.size w w' := by
  go_enter Try.func25, Try.ntmps25
  go_upto_region 1 with fail
  obtain ⟨X, hX, hwX, hz, k0, k1, k2, k3, hW⟩ := boxes3 w (.int .i64 t) (.int .i64 l) (.int .i64 t') (.int .i64 l') (.int .i64 0) (.int .i64 0)
  rw [hX]
  clear hX hz
  go_wp2_with fail
  (with_reducible refine (HC.out X).mono ?_)
  rintro e w1 ⟨rfl, hB1⟩
  have B1 := hwX.trans (hB1.mono hwX.size)
  obtain ⟨⟨c1, c2, c3, c4⟩, c5, c6, c7⟩ := hW.keep hB1
  clear k0 k1 k2 k3
  go_wp2_with fail
  exact bodyPost_ret (v := .tuple #[.agg #[.int .i64 p1, .int .i64 p2], .int .i64 q]) (by simp [results, Try.results25, go_sem, *]) rfl ⟨rfl, (B1.setCell (by show w.heap.size ≤ w.heap.size + 2; omega) _).setCell (by show w.heap.size ≤ w.heap.size + 2; omega) _⟩

set_option maxRecDepth 100000 in
set_option maxHeartbeats 2000000 in
theorem call_14 (t l t' l' p1 p2 q : Int) (w : World)
    (HC : Hid (∀ wx, Calls Try.prog 39 #[.agg #[.int .i64 t, .int .i64 l], .agg #[.int .i64 t', .int .i64 l'], .func (.func 38) #[] #[]] wx fun e w' => e = .returned (.tuple #[.agg #[.int .i64 p1, .int .i64 p2], .int .i64 q]) ∧ Below wx.heap.size wx w')) :
    Calls Try.prog 14 #[.agg #[.int .i64 t, .int .i64 l], .agg #[.int .i64 t', .int .i64 l']] w fun e w' => e = .returned (.tuple #[.agg #[.int .i64 p1, .int .i64 p2], .int .i64 q]) ∧ Below w.heap.size w w' := by
  go_enter Try.func14, Try.ntmps14
  go_upto_region 1 with fail
  obtain ⟨X, hX, hwX, hz, k0, k1, k2, k3, hW⟩ := boxes3 w (.int .i64 t) (.int .i64 l) (.int .i64 t') (.int .i64 l') (.int .i64 0) (.int .i64 0)
  rw [hX]
  clear hX hz
  go_wp2_with fail
  (with_reducible refine (HC.out X).mono ?_)
  rintro e w1 ⟨rfl, hB1⟩
  have B1 := hwX.trans (hB1.mono hwX.size)
  obtain ⟨⟨c1, c2, c3, c4⟩, c5, c6, c7⟩ := hW.keep hB1
  clear k0 k1 k2 k3
  go_wp2_with fail
  exact bodyPost_ret (v := .tuple #[.agg #[.int .i64 p1, .int .i64 p2], .int .i64 q]) (by simp [results, Try.results14, go_sem, *]) rfl ⟨rfl, (B1.setCell (by show w.heap.size ≤ w.heap.size + 2; omega) _).setCell (by show w.heap.size ≤ w.heap.size + 2; omega) _⟩

end Go.Proofs.Ytfhmhkbjcccejaa

namespace Go.Proofs.Ytfhmhkbjcccejaa
open Go.RowKit

theorem norm_le (n : Int) (d : Nat) (h : d ≠ 0) : (Rat.normalize n d h).num.natAbs ≤ n.natAbs ∧ (Rat.normalize n d h).den ≤ d := by
  rw [Rat.normalize_eq]
  exact ⟨Int.natAbs_ediv_le_natAbs _ _, Nat.div_le_self _ _⟩

theorem vld_le {x : Rat} (h : vld x.num (x.den : Int) = true) : x.num.natAbs ≤ 1152921504606846976 ∧ x.den ≤ 1152921504606846976 := by
  simp [vld] at h
  omega

theorem W_pow_le {i j : Nat} (h : i ≤ j) : W ^ i ≤ W ^ j := Nat.pow_le_pow_right (by rw [W_eq]; decide) h
theorem W4_le : W ^ 4 ≤ W ^ 1000 := @W_pow_le 4 1000 (by decide)

theorem small_pow {k : Nat} (h : k ≤ 2658455991569831745807614120560689152) : k < W ^ 1000 :=
  Nat.lt_of_lt_of_le (show k < W ^ 4 from Nat.lt_of_le_of_lt h (by show _ < (4294967296 : Nat) ^ 4; decide)) W4_le

theorem mul_le {a b : Nat} (ha : a ≤ 1152921504606846976) (hb : b ≤ 1152921504606846976) : a * b ≤ 1329227995784915872903807060280344576 :=
  Nat.le_trans (Nat.mul_le_mul ha hb) (by decide)

theorem add_lim {x y : Rat} (h : vld x.num (x.den : Int) = true) (h' : vld y.num (y.den : Int) = true) : (x + y).num.natAbs < W ^ 1000 ∧ (x + y).den < W ^ 1000 := by
  obtain ⟨a1, a2⟩ := vld_le h
  obtain ⟨b1, b2⟩ := vld_le h'
  rw [Rat.add_def]
  have k := norm_le (x.num * y.den + y.num * x.den) (x.den * y.den) (Nat.mul_ne_zero x.den_nz y.den_nz)
  have e1 : (x.num * (y.den : Int)).natAbs ≤ 1329227995784915872903807060280344576 := by rw [Int.natAbs_mul, Int.natAbs_natCast]; exact mul_le a1 b2
  have e2 : (y.num * (x.den : Int)).natAbs ≤ 1329227995784915872903807060280344576 := by rw [Int.natAbs_mul, Int.natAbs_natCast]; exact mul_le b1 a2
  have e3 := Int.natAbs_add_le (x.num * (y.den : Int)) (y.num * (x.den : Int))
  have e4 := mul_le a2 b2
  exact ⟨small_pow (Nat.le_trans k.1 (Nat.le_trans e3 (by omega))), small_pow (Nat.le_trans k.2 (Nat.le_trans e4 (by decide)))⟩

theorem sub_lim {x y : Rat} (h : vld x.num (x.den : Int) = true) (h' : vld y.num (y.den : Int) = true) : (x - y).num.natAbs < W ^ 1000 ∧ (x - y).den < W ^ 1000 := by
  obtain ⟨a1, a2⟩ := vld_le h
  obtain ⟨b1, b2⟩ := vld_le h'
  rw [Rat.sub_def]
  have k := norm_le (x.num * y.den - y.num * x.den) (x.den * y.den) (Nat.mul_ne_zero x.den_nz y.den_nz)
  have e1 : (x.num * (y.den : Int)).natAbs ≤ 1329227995784915872903807060280344576 := by rw [Int.natAbs_mul, Int.natAbs_natCast]; exact mul_le a1 b2
  have e2 : (y.num * (x.den : Int)).natAbs ≤ 1329227995784915872903807060280344576 := by rw [Int.natAbs_mul, Int.natAbs_natCast]; exact mul_le b1 a2
  have e3 := Int.natAbs_sub_le (x.num * (y.den : Int)) (y.num * (x.den : Int))
  have e4 := mul_le a2 b2
  exact ⟨small_pow (Nat.le_trans k.1 (Nat.le_trans e3 (by omega))), small_pow (Nat.le_trans k.2 (Nat.le_trans e4 (by decide)))⟩

theorem mul_lim {x y : Rat} (h1 : x.num.natAbs ≤ 1152921504606846976) (h2 : x.den ≤ 1152921504606846976) (h3 : y.num.natAbs ≤ 1152921504606846976) (h4 : y.den ≤ 1152921504606846976) : (x * y).num.natAbs < W ^ 1000 ∧ (x * y).den < W ^ 1000 := by
  rw [Rat.mul_def]
  have k := norm_le (x.num * y.num) (x.den * y.den) (Nat.mul_ne_zero x.den_nz y.den_nz)
  have e1 : (x.num * y.num).natAbs ≤ 1329227995784915872903807060280344576 := by rw [Int.natAbs_mul]; exact mul_le h1 h3
  have e4 := mul_le h2 h4
  exact ⟨small_pow (Nat.le_trans k.1 (Nat.le_trans e1 (by decide))), small_pow (Nat.le_trans k.2 (Nat.le_trans e4 (by decide)))⟩

theorem quo_lim {x y : Rat} (h : vld x.num (x.den : Int) = true) (h' : vld y.num (y.den : Int) = true) (hy : y.num ≠ 0) : (x / y).num.natAbs < W ^ 1000 ∧ (x / y).den < W ^ 1000 := by
  obtain ⟨a1, a2⟩ := vld_le h
  obtain ⟨b1, b2⟩ := vld_le h'
  rw [Rat.div_def]
  have k := inv_num y hy
  exact mul_lim a1 a2 (by omega) (by omega)

theorem len2 {w : World} {A : Option Addr} {n c x : Nat} (h : D w (.slice A n c) x) (hx : x ≤ 1152921504606846976) : n ≤ 2 := h.len (Nat.lt_of_le_of_lt hx (by show _ < (4294967296 : Nat) ^ 2; decide))

theorem addN_ok (x y : Rat) (w : World) (h : vld x.num (x.den : Int) = true) (h' : vld y.num (y.den : Int) = true) :
    Calls Try.prog 39 #[.agg #[.int .i64 x.num, .int .i64 (x.den : Int)], .agg #[.int .i64 y.num, .int .i64 (y.den : Int)], .func (.func 55) #[] #[]] w fun e w' => e = .returned (outN (x + y)) ∧ Below w.heap.size w w' := by
  obtain ⟨a1, a2⟩ := vld_le h
  obtain ⟨b1, b2⟩ := vld_le h'
  obtain ⟨z1, z2⟩ := add_lim h h'
  refine operate_55 x y _ w h h' z1 z2 (Lib.hid fun wx A n c B m d A' n' c' B' m' d' k1 k2 k3 k4 => ?_)
  have e1 := len2 k1 a1
  have e2 := len2 k2 a2
  have e3 := len2 k3 b1
  have e4 := len2 k4 b2
  exact addR_any _ _ A B A' B' n c m d n' c' m' d' x y wx ⟨rfl, k1, k2⟩ ⟨rfl, k3, k4⟩ (by omega) (by omega) (by omega) (by omega) (by omega)

theorem subN_ok (x y : Rat) (w : World) (h : vld x.num (x.den : Int) = true) (h' : vld y.num (y.den : Int) = true) :
    Calls Try.prog 39 #[.agg #[.int .i64 x.num, .int .i64 (x.den : Int)], .agg #[.int .i64 y.num, .int .i64 (y.den : Int)], .func (.func 56) #[] #[]] w fun e w' => e = .returned (outN (x - y)) ∧ Below w.heap.size w w' := by
  obtain ⟨a1, a2⟩ := vld_le h
  obtain ⟨b1, b2⟩ := vld_le h'
  obtain ⟨z1, z2⟩ := sub_lim h h'
  refine operate_56 x y _ w h h' z1 z2 (Lib.hid fun wx A n c B m d A' n' c' B' m' d' k1 k2 k3 k4 => ?_)
  have e1 := len2 k1 a1
  have e2 := len2 k2 a2
  have e3 := len2 k3 b1
  have e4 := len2 k4 b2
  exact subR_any _ _ A B A' B' n c m d n' c' m' d' x y wx ⟨rfl, k1, k2⟩ ⟨rfl, k3, k4⟩ (by omega) (by omega) (by omega) (by omega) (by omega)

theorem mulN_ok (x y : Rat) (w : World) (h : vld x.num (x.den : Int) = true) (h' : vld y.num (y.den : Int) = true) :
    Calls Try.prog 39 #[.agg #[.int .i64 x.num, .int .i64 (x.den : Int)], .agg #[.int .i64 y.num, .int .i64 (y.den : Int)], .func (.func 38) #[] #[]] w fun e w' => e = .returned (outN (x * y)) ∧ Below w.heap.size w w' := by
  obtain ⟨a1, a2⟩ := vld_le h
  obtain ⟨b1, b2⟩ := vld_le h'
  obtain ⟨z1, z2⟩ := mul_lim a1 a2 b1 b2
  refine operate_38 x y _ w h h' z1 z2 (Lib.hid fun wx A n c B m d A' n' c' B' m' d' k1 k2 k3 k4 => ?_)
  have e1 := len2 k1 a1
  have e2 := len2 k2 a2
  have e3 := len2 k3 b1
  have e4 := len2 k4 b2
  exact mulR_any _ _ A B A' B' n c m d n' c' m' d' x y wx ⟨rfl, k1, k2⟩ ⟨rfl, k3, k4⟩ (by omega) (by omega) (by omega) (by omega) (by omega) (by omega)

theorem quoN_ok (x y : Rat) (w : World) (h : vld x.num (x.den : Int) = true) (h' : vld y.num (y.den : Int) = true) (hy : y.num ≠ 0) :
    Calls Try.prog 39 #[.agg #[.int .i64 x.num, .int .i64 (x.den : Int)], .agg #[.int .i64 y.num, .int .i64 (y.den : Int)], .func (.func 57) #[] #[]] w fun e w' => e = .returned (outN (x / y)) ∧ Below w.heap.size w w' := by
  obtain ⟨a1, a2⟩ := vld_le h
  obtain ⟨b1, b2⟩ := vld_le h'
  obtain ⟨z1, z2⟩ := quo_lim h h' hy
  refine operate_57 x y _ w h h' z1 z2 (Lib.hid fun wx A n c B m d A' n' c' B' m' d' k1 k2 k3 k4 => ?_)
  have e1 := len2 k1 a1
  have e2 := len2 k2 a2
  have e3 := len2 k3 b1
  have e4 := len2 k4 b2
  exact quoR_any _ _ A B A' B' n c m d n' c' m' d' x y wx ⟨rfl, k1, k2⟩ ⟨rfl, k3, k4⟩ (by omega) (by omega) (by omega) (by omega) (by omega) (by omega) hy

end Go.Proofs.Ytfhmhkbjcccejaa

namespace Go.Proofs.Ytfhmhkbjcccejaa
open Go.RowKit

/-- The fraction that a number stands for. -/
def fr (t l : Int) : Rat := mkRat t l.toNat
theorem fr_of (x : Rat) : fr x.num (x.den : Int) = x := by
  show mkRat x.num ((x.den : Int)).toNat = x
  rw [Int.toNat_natCast]
  exact Rat.mkRat_self x

theorem vld_rat {t l : Int} (h : vld t l = true) : ∃ x : Rat, x.num = t ∧ (x.den : Int) = l ∧ fr t l = x := by
  have h1 : 1 ≤ l ∧ Nat.gcd t.natAbs l.toNat = 1 := by
    simp [vld] at h
    exact ⟨by omega, h.2⟩
  have e : ((l.toNat : Nat) : Int) = l := by omega
  refine ⟨⟨t, l.toNat, by omega, h1.2⟩, rfl, e, ?_⟩
  have := fr_of ⟨t, l.toNat, by omega, h1.2⟩
  simp only [e] at this
  exact this

/-- The parts and the error of a result. -/
def outT (z : Rat) : Int × Int × Int := if Fits z then (z.num, (z.den : Int), 0) else (0, 0, 3)
def resT (f : Rat → Rat → Rat) (t l t' l' : Int) : Int × Int × Int := if vld t l && vld t' l' then outT (f (fr t l) (fr t' l')) else (0, 0, 1)
def val3 (r : Int × Int × Int) : Value := .tuple #[.agg #[.int .i64 r.1, .int .i64 r.2.1], .int .i64 r.2.2]
theorem outN_val (z : Rat) : outN z = val3 (outT z) := by
  unfold outN outT val3
  split <;> rfl

theorem resT_bad {f : Rat → Rat → Rat} {t l t' l' : Int} (h : (vld t l && vld t' l') = false) : resT f t l t' l' = (0, 0, 1) := by
  unfold resT
  rw [h]
  rfl
theorem resT_ok {f : Rat → Rat → Rat} (x y : Rat) (h : vld x.num (x.den : Int) = true) (h' : vld y.num (y.den : Int) = true) : resT f x.num x.den y.num y.den = outT (f x y) := by
  unfold resT
  rw [h, h', fr_of, fr_of]
  rfl

theorem addNum_any (t l t' l' : Int) (w : World) :
    Calls Try.prog 24 #[.agg #[.int .i64 t, .int .i64 l], .agg #[.int .i64 t', .int .i64 l']] w fun e w' => e = .returned (val3 (resT (fun x y => x + y) t l t' l')) ∧ Below w.heap.size w w' := by
  refine call_24 t l t' l' _ _ _ w (Lib.hid fun wx => ?_)
  cases h : vld t l
  · rw [resT_bad (by rw [h]; rfl)]
    exact operate_bad1 t l t' l' _ wx h
  · cases h' : vld t' l'
    · rw [resT_bad (by rw [h, h']; rfl)]
      exact operate_bad2 t l t' l' _ wx h h'
    · obtain ⟨x, rfl, rfl, -⟩ := vld_rat h
      obtain ⟨y, rfl, rfl, -⟩ := vld_rat h'
      have := addN_ok x y wx h h'
      rw [outN_val, ← resT_ok (f := fun x y => x + y) x y h h'] at this
      exact this

theorem subNum_any (t l t' l' : Int) (w : World) :
    Calls Try.prog 25 #[.agg #[.int .i64 t, .int .i64 l], .agg #[.int .i64 t', .int .i64 l']] w fun e w' => e = .returned (val3 (resT (fun x y => x - y) t l t' l')) ∧ Below w.heap.size w w' := by
  refine call_25 t l t' l' _ _ _ w (Lib.hid fun wx => ?_)
  cases h : vld t l
  · rw [resT_bad (by rw [h]; rfl)]
    exact operate_bad1 t l t' l' _ wx h
  · cases h' : vld t' l'
    · rw [resT_bad (by rw [h, h']; rfl)]
      exact operate_bad2 t l t' l' _ wx h h'
    · obtain ⟨x, rfl, rfl, -⟩ := vld_rat h
      obtain ⟨y, rfl, rfl, -⟩ := vld_rat h'
      have := subN_ok x y wx h h'
      rw [outN_val, ← resT_ok (f := fun x y => x - y) x y h h'] at this
      exact this

theorem mulNum_any (t l t' l' : Int) (w : World) :
    Calls Try.prog 14 #[.agg #[.int .i64 t, .int .i64 l], .agg #[.int .i64 t', .int .i64 l']] w fun e w' => e = .returned (val3 (resT (fun x y => x * y) t l t' l')) ∧ Below w.heap.size w w' := by
  refine call_14 t l t' l' _ _ _ w (Lib.hid fun wx => ?_)
  cases h : vld t l
  · rw [resT_bad (by rw [h]; rfl)]
    exact operate_bad1 t l t' l' _ wx h
  · cases h' : vld t' l'
    · rw [resT_bad (by rw [h, h']; rfl)]
      exact operate_bad2 t l t' l' _ wx h h'
    · obtain ⟨x, rfl, rfl, -⟩ := vld_rat h
      obtain ⟨y, rfl, rfl, -⟩ := vld_rat h'
      have := mulN_ok x y wx h h'
      rw [outN_val, ← resT_ok (f := fun x y => x * y) x y h h'] at this
      exact this

end Go.Proofs.Ytfhmhkbjcccejaa
