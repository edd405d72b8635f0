/- The quotient of fractions of any size in memory. -/
import Derived.Test.YtjoanclnaeephaaGreatRat6
namespace Go.Proofs.YtjoanclnaeephaaGreat
open Go.RowKit

theorem B4.new (w : World) (p q r s : Value) (T : Nat) : B4 w.heap.size p q r s (w.alloc (.cells #[p, q, r, s] T)) := by simp [B4, go_sem]

/-- Slot s points to a new box of four cells. -/
def CutQ (X : World) (p q r u : Value) (s : Value) (wx : World) : Prop :=
  ∃ g, s = .pointer (some ⟨g, 0, none⟩) ∧ B4 g p q r u wx ∧ Wr4 g 40 wx ∧ Below X.heap.size X wx ∧ X.heap.size ≤ g ∧ g < wx.heap.size
theorem cutQ_new {X w2 : World} {p q r u : Value} (hB : Below X.heap.size X w2) : CutQ X p q r u (.pointer (some ⟨w2.heap.size, 0, none⟩)) (w2.alloc (.cells #[p, q, r, u] 40)) :=
  ⟨w2.heap.size, rfl, B4.new w2 _ _ _ _ 40, Wr4.new w2 _ _ _ _ 40 rfl, hB.alloc hB.size _, hB.size, by simp⟩
theorem Wr4.set {g : Nat} {w : World} (h : Wr4 g 40 w) (p q r u : Value) : B4 g p q r u ((((w.setCell ⟨g, 0, none⟩ p).setCell ⟨g, 1, none⟩ q).setCell ⟨g, 2, none⟩ r).setCell ⟨g, 3, none⟩ u) ∧ Wr4 g 40 ((((w.setCell ⟨g, 0, none⟩ p).setCell ⟨g, 1, none⟩ q).setCell ⟨g, 2, none⟩ r).setCell ⟨g, 3, none⟩ u) := by
  obtain ⟨⟨a, b, c, d, h1, h2, h3, h4⟩, f1, f2, f3, f4, hx⟩ := h
  have hb : B4 g p q r u ((((w.setCell ⟨g, 0, none⟩ p).setCell ⟨g, 1, none⟩ q).setCell ⟨g, 2, none⟩ r).setCell ⟨g, 3, none⟩ u) := by simp [B4, go_sem, h1, h2, h3, h4]
  refine ⟨hb, ⟨p, q, r, u, hb.1, hb.2.1, hb.2.2.1, hb.2.2.2⟩, ?_, ?_, ?_, ?_, (((hx.set _ _ _).set _ _ _).set _ _ _).set _ _ _⟩ <;> simp [go_sem, f1, f2, f3, f4]
theorem cutQ_set {X w2 : World} {p q r u : Value} {g : Nat} (hW : Wr4 g 40 w2) (hB : Below X.heap.size X w2) (hg : X.heap.size ≤ g) : CutQ X p q r u (.pointer (some ⟨g, 0, none⟩)) ((((w2.setCell ⟨g, 0, none⟩ p).setCell ⟨g, 1, none⟩ q).setCell ⟨g, 2, none⟩ r).setCell ⟨g, 3, none⟩ u) := by
  have hsz : g < w2.heap.size := by obtain ⟨_, _, _, _, _, cs, fr, hc⟩ := hW; exact lt_of_heap hc
  exact ⟨g, rfl, (hW.set p q r u).1, (hW.set p q r u).2, (((hB.setCell hg _).setCell hg _).setCell hg _).setCell hg _, hg, by simpa [World.setCell] using hsz⟩

set_option maxRecDepth 100000 in
theorem signR_any (b b2 : Bool) (A B : Option Addr) (n c m d : Nat) (w : World) (hn : n ≤ 1000000) :
    Calls Tryz.prog 49 #[.agg #[.bool b, .slice A n c, .bool b2, .slice B m d]] w fun e w' => e = .returned (.int .i64 (sg b n)) ∧ Below w.heap.size w w' := by
  have HS := Lib.hid (fun wx => signI_any b A n c wx hn)
  go_enter Tryz.func49, Tryz.ntmps49
  go_wp2_with fail
  (with_reducible refine (HS.out _).mono ?_)
  rintro e w1 ⟨rfl, hB⟩
  go_wp2_with fail
  go_ret
  exact ⟨rfl, (below_alloc w _).trans (hB.mono (by simp))⟩

theorem inv_num (y : Rat) (hy : y.num ≠ 0) : (y⁻¹).num.natAbs = y.den ∧ (y⁻¹).den = y.num.natAbs := by
  rw [Rat.num_inv, Rat.den_inv, if_neg hy]
  refine ⟨?_, rfl⟩
  rw [Int.natAbs_mul, Int.natAbs_natCast]
  have : y.num.sign.natAbs = 1 := by rw [Int.natAbs_sign]; exact if_neg hy
  rw [this, Nat.one_mul]

set_option maxRecDepth 100000 in
set_option maxHeartbeats 8000000 in
theorem quoR_pos (b1 : Bool) (A B A' B' : Option Addr) (n c m d n' c' m' d' : Nat) (x y : Rat) (w : World) (hx : Q w b1 (.slice A n c) (.slice B m d) x) (hy : Q w false (.slice A' n' c') (.slice B' m' d') y)
    (hn : n ≤ 50000) (hm : m ≤ 50000) (hn' : n' ≤ 50000) (hm' : m' ≤ 50000) (hy1 : y.num.natAbs < 18446744073709551616) (hy2 : y.den < 18446744073709551616) (hy0 : y.num ≠ 0) :
    Calls Tryz.prog 27 #[.agg #[.bool b1, .slice A n c, .bool false, .slice B m d], .agg #[.bool false, .slice A' n' c', .bool false, .slice B' m' d']] w (RetR (x / y) w) := by
  obtain ⟨i1, i2⟩ := inv_num y hy0
  have hden : 0 < y.den := by have := y.den_nz; omega
  have HLb : Hid (∀ wx, Calls Tryz.prog 38 #[.agg #[.bool false, .slice A' n' c', .bool false, .slice B' m' d']] wx fun e w' => e = .returned (.agg #[.bool false, .slice B' m' d']) ∧ Below wx.heap.size wx w') := fun wx => low_any false A' B' n' c' m' d' wx hy.low (by omega)
  have HS : Hid (∀ wx, Calls Tryz.prog 49 #[.agg #[.bool false, .slice A' n' c', .bool false, .slice B' m' d']] wx fun e w' => e = .returned (.int .i64 (sg false n')) ∧ Below wx.heap.size wx w') := fun wx => signR_any false false A' B' n' c' m' d' wx (by omega)
  have hs0 : decide (sg false n' < 0) = false := by unfold sg; by_cases h : n' = 0 <;> simp [h]
  have hpos : 0 < y.num := by
    have h1 := hy.1
    have h2 : ¬ y.num < 0 := by simpa using h1.symm
    omega
  have HM : Hid (∀ wx, Below w.heap.size w wx → Calls Tryz.prog 25 #[.agg #[.bool b1, .slice A n c, .bool false, .slice B m d], .agg #[.bool false, .slice B' m' d', .bool false, .slice A' n' c']] wx (RetR (x / y) wx)) := fun wx hb => by
    rw [Rat.div_def]
    refine mulR_any b1 false A B B' A' n c m d m' d' n' c' x y⁻¹ wx (hx.keep hb) ⟨?_, ?_, ?_⟩ (by omega) (by omega) (by omega) (by omega) (by rw [i1]; exact hy2) (by rw [i2]; exact hy1)
    · have : ¬ (y⁻¹).num < 0 := by rw [Rat.num_inv, Int.sign_eq_one_of_pos hpos]; omega
      rw [decide_eq_false this]
    · rw [i1]; exact (hy.keep hb).2.2
    · rw [i2]; exact (hy.keep hb).2.1
  generalize x / y = z at HM ⊢
  clear hx hy hn hm hn' hm' hy2 hy1 hy0 i1 i2 hden hpos x y
  go_enter Tryz.func27, Tryz.ntmps27
  go_upto_region 1 with fail
  generalize hX : ((w.alloc _).alloc _).alloc _ = X
  have hXX : Below w.heap.size w X ∧ w.heap.size + 3 = X.heap.size ∧ Wr4 (w.heap.size + 1 + 1) 40 X ∧ B4 w.heap.size (.bool b1) (.slice A n c) (.bool false) (.slice B m d) X ∧ B4 (w.heap.size + 1) (.bool false) (.slice A' n' c') (.bool false) (.slice B' m' d') X := by
    subst hX
    obtain ⟨f1, f2, f3⟩ := frame4 w (.bool b1) (.slice A n c) (.bool false) (.slice B m d) (.bool false) (.slice A' n' c') (.bool false) (.slice B' m' d') (.bool false) (.slice none 0 0) (.bool false) (.slice none 0 0)
    exact ⟨f1, f2, f3, by simp [B4, go_sem], by simp [B4, go_sem]⟩
  obtain ⟨hwX, hsX, hWX, K4, K4'⟩ := hXX
  have za : w.heap.size < X.heap.size := by omega
  have zb : w.heap.size + 1 < X.heap.size := by omega
  have zc : w.heap.size + 1 + 1 < X.heap.size := by omega
  clear hX hsX
  have KX := Lib.hid K4
  have KX' := Lib.hid K4'
  obtain ⟨j0, j1, j2, j3⟩ := K4'
  clear K4
  go_cut [5] (fun s wx => ∃ Y : World, Y = wx ∧ CutQ X (.bool false) (.slice B' m' d') (.bool false) (.slice A' n' c') s Y)
  case first =>
    go_region_held3 (fun w' => w'.cell? ⟨w.heap.size + 1, 0, none⟩ = some (.bool false) ∧ w'.cell? ⟨w.heap.size + 1, 1, none⟩ = some (.slice A' n' c') ∧ w'.cell? ⟨w.heap.size + 1, 2, none⟩ = some (.bool false) ∧ w'.cell? ⟨w.heap.size + 1, 3, none⟩ = some (.slice B' m' d')) (simp [go_sem, World.cell?_alloc_past, *])
      (first
        | (go_at_call 38; (with_reducible refine (HLb.out _).mono ?_); rintro e w1 ⟨rfl, hB1⟩; (have R1 : Below X.heap.size X w1 := stepB (by repeat (first | exact Below.refl _ _ | refine Below.drew ?_ | refine Below.alloc ?_ (Nat.le_refl _) _)) hB1); have C1 := (bcell R1).1; have v1a := Nat.lt_of_lt_of_le za R1.size; have v1b := Nat.lt_of_lt_of_le zb R1.size; (try (have hwr := (Wr4.new _ (.bool false) (.slice none 0 0) (.bool false) (.slice none 0 0) 40 rfl).keep hB1)); (try (have hwr := (Wr4.new _ (.bool false) (.slice none 0 0) (.bool false) (.slice none 0 0) 40 rfl).keep (below_undrew' hB1))); (try (obtain ⟨⟨s1, s2, s3, s4, s5, s6, s7, s8⟩, u1, u2, u3, u4, u5⟩ := id hwr))))
    all_goals go_wp2_with fail
    all_goals go_meet
    all_goals first | exact ⟨_, rfl, cutQ_new R1⟩ | exact ⟨_, rfl, cutQ_set hwr R1 (by first | exact Nat.le_refl _ | exact R1.size)⟩
  case rest =>
    obtain ⟨Y, rfl, g5, rfl, hb5, hw5, hXY, hg5, hg5'⟩ := hcut
    have hwY := hwX.trans (hXY.mono hwX.size)
    have hWY := hWX.keep hXY
    have KY := Lib.hid (KX.out.keep za hXY)
    have KY' := Lib.hid (KX'.out.keep zb hXY)
    have ya := Nat.lt_of_lt_of_le za hXY.size
    have yb := Nat.lt_of_lt_of_le zb hXY.size
    have g5n : w.heap.size + 1 + 1 ≠ g5 := by omega
    have g5w : w.heap.size ≤ g5 := by omega
    clear j0 j1 j2 j3 hWX KX KX' hXY hg5 za zb zc
    obtain ⟨j0, j1, j2, j3⟩ := KY'.out
    have H5 := Lib.hid hb5
    clear hb5
    go_wp2_with fail
    (with_reducible refine (HS.out _).mono ?_)
    rintro e w1 ⟨rfl, hB1⟩
    have hw1 := hwY.trans (hB1.mono hwY.size)
    have hW1 := hWY.keep hB1
    have hw51 := hw5.keep hB1
    have K1 := KY.out.keep ya hB1
    have K1' := KY'.out.keep yb hB1
    have H51 := H5.out.keep hg5' hB1
    have ua := Nat.lt_of_lt_of_le ya hB1.size
    have ub := Nat.lt_of_lt_of_le yb hB1.size
    have u5 := Nat.lt_of_lt_of_le hg5' hB1.size
    clear j0 j1 j2 j3 KY KY' H5 hWY hw5
    obtain ⟨k0, k1, k2, k3⟩ := K1
    obtain ⟨i0, i1, i2, i3⟩ := H51
    clear K1'
    go_wp2_with fail
    (with_reducible refine (HM.out _ hw1).mono ?_)
    rintro e w2 ⟨A1, n1, c1, B1, m1, d1, rfl, hD1, hD2, hB2⟩
    obtain ⟨⟨o1, o2, o3, o4, o5, o6, o7, o8⟩, q1, q2, q3, q4, q5⟩ := hW1.keep hB2
    have hw2 := hw1.trans (hB2.mono hw1.size)
    go_wp2_with fail
    exact bodyPost_ret (v := .agg #[.bool (decide (z.num < 0)), .slice A1 n1 c1, .bool false, .slice B1 m1 d1]) (by simp [results, Tryz.results27, go_sem, o5, o6, o7, o8]) rfl (retR_box' rfl hD1 hD2 q5 hw2 (by omega))

end Go.Proofs.YtjoanclnaeephaaGreat
