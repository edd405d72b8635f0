/- The quotient of fractions of any size in memory, by a negative one. -/
import Derived.Test.YtjoanclnaeephaaGreatRat7
namespace Go.Proofs.YtjoanclnaeephaaGreat
open Go.RowKit

theorem B4.far {g k : Nat} {p q r s : Value} {w : World} (h : B4 g p q r s w) (hk : g ≠ k) (o : Nat) (u : Value) : B4 g p q r s (w.setCell ⟨k, o, none⟩ u) := by
  obtain ⟨h1, h2, h3, h4⟩ := h
  have key : ∀ i : Nat, (w.setCell ⟨k, o, none⟩ u).cell? ⟨g, i, none⟩ = w.cell? ⟨g, i, none⟩ := fun i => World.cell?_setCell_other w ⟨k, o, none⟩ ⟨g, i, none⟩ u (fun e => hk (by have h := congrArg Addr.block e; first | exact h | exact h.symm))
  exact ⟨(key _).trans h1, (key _).trans h2, (key _).trans h3, (key _).trans h4⟩
theorem Wr4.far {g k : Nat} {w : World} (h : Wr4 g 40 w) (hk : g ≠ k) (o : Nat) (u : Value) : Wr4 g 40 (w.setCell ⟨k, o, none⟩ u) := by
  obtain ⟨⟨a, b, c, d, h1, h2, h3, h4⟩, f1, f2, f3, f4, hx⟩ := h
  have hb := B4.far (w := w) ⟨h1, h2, h3, h4⟩ hk o u
  have e : (w.setCell ⟨k, o, none⟩ u).heap[g]? = w.heap[g]? := Below.heap_setCell _ _ _ _ hk
  have key : ∀ i : Nat, (w.setCell ⟨k, o, none⟩ u).frozen? ⟨g, i, none⟩ = w.frozen? ⟨g, i, none⟩ := fun i => World.frozen?_of_block (w := w) e
  exact ⟨⟨a, b, c, d, hb.1, hb.2.1, hb.2.2.1, hb.2.2.2⟩, (key _).trans f1, (key _).trans f2, (key _).trans f3, (key _).trans f4, hx.set _ _ _⟩

set_option maxRecDepth 100000 in
set_option maxHeartbeats 8000000 in
theorem quoR_neg (b1 : Bool) (A B A' B' : Option Addr) (n c m d n' c' m' d' : Nat) (x y : Rat) (w : World) (hx : Q w b1 (.slice A n c) (.slice B m d) x) (hy : Q w true (.slice A' n' c') (.slice B' m' d') y)
    (hn : n ≤ 50000) (hm : m ≤ 50000) (hn' : n' ≤ 50000) (hm' : m' ≤ 50000) (hy1 : y.num.natAbs < 18446744073709551616) (hy2 : y.den < 18446744073709551616) (hy0 : y.num ≠ 0) :
    Calls Tryz.prog 27 #[.agg #[.bool b1, .slice A n c, .bool false, .slice B m d], .agg #[.bool true, .slice A' n' c', .bool false, .slice B' m' d']] w (RetR (x / y) w) := by
  obtain ⟨i1, i2⟩ := inv_num y hy0
  have hden : 0 < y.den := by have := y.den_nz; omega
  have HLb : Hid (∀ wx, Calls Tryz.prog 38 #[.agg #[.bool true, .slice A' n' c', .bool false, .slice B' m' d']] wx fun e w' => e = .returned (.agg #[.bool false, .slice B' m' d']) ∧ Below wx.heap.size wx w') := fun wx => low_any true A' B' n' c' m' d' wx hy.low (by omega)
  have HS : Hid (∀ wx, Calls Tryz.prog 49 #[.agg #[.bool true, .slice A' n' c', .bool false, .slice B' m' d']] wx fun e w' => e = .returned (.int .i64 (sg true n')) ∧ Below wx.heap.size wx w') := fun wx => signR_any true false A' B' n' c' m' d' wx (by omega)
  have hs0 : decide (sg true n' < 0) = true := by simp [sg]
  have hneg : y.num < 0 := by
    have h1 := hy.1
    simpa using h1.symm
  have hinum : (y⁻¹).num = -(y.den : Int) := by rw [Rat.num_inv, Int.sign_eq_neg_one_of_neg hneg]; omega
  have HN1 : Hid (∀ wx, Below w.heap.size w wx → Calls Tryz.prog 50 #[.agg #[.bool false, .slice B' m' d']] wx (RetB (-(y.den : Int)) wx)) := fun wx hb => (neg_any false B' m' d' _ wx (hy.keep hb).2.2 (by omega)).mono fun _ _ => RetB.of
  have HN2 : Hid (∀ wx, Below w.heap.size w wx → Calls Tryz.prog 50 #[.agg #[.bool true, .slice A' n' c']] wx (RetN y.num.natAbs wx)) := fun wx hb => (neg_any true A' n' c' _ wx (hy.keep hb).2.1 (by omega)).mono fun _ _ => RetN.of
  have HM : Hid (∀ wx p A1 n1 c1 A2 n2 c2, Below w.heap.size w wx → Hid (p = decide (-(y.den : Int) < 0)) → D wx (.slice A1 n1 c1) (-(y.den : Int)).natAbs → D wx (.slice A2 n2 c2) y.num.natAbs → Calls Tryz.prog 25 #[.agg #[.bool b1, .slice A n c, .bool false, .slice B m d], .agg #[.bool p, .slice A1 n1 c1, .bool false, .slice A2 n2 c2]] wx (RetR (x / y) wx)) := fun wx p A1 n1 c1 A2 n2 c2 hb hp h1 h2 => by
    have e1 : n1 ≤ m' := h1.len (by rw [Int.natAbs_neg, Int.natAbs_natCast]; exact hy.2.2.pow)
    have e2 : n2 ≤ n' := h2.len hy.2.1.pow
    rw [Rat.div_def]
    refine mulR_any b1 p A B A1 A2 n c m d n1 c1 n2 c2 x y⁻¹ wx (hx.keep hb) ⟨?_, ?_, ?_⟩ (by omega) (by omega) (by omega) (by omega) (by rw [i1]; exact hy2) (by rw [i2]; exact hy1)
    · rw [hinum]; exact hp.out
    · rw [hinum]; exact h1
    · rw [i2]; exact h2
  generalize x / y = z at HM ⊢
  generalize -(y.den : Int) = e1 at HN1 HM
  generalize y.num.natAbs = e2 at HN2 HM
  clear hx hy hn hm hn' hm' hy2 hy1 hy0 i1 i2 hden hneg hinum x y
  go_enter Tryz.func27, Tryz.ntmps27
  go_upto_region 1 with fail
  generalize hX : ((w.alloc _).alloc _).alloc _ = X
  have hXX : Below w.heap.size w X ∧ w.heap.size + 3 = X.heap.size ∧ Wr4 (w.heap.size + 1 + 1) 40 X ∧ B4 w.heap.size (.bool b1) (.slice A n c) (.bool false) (.slice B m d) X ∧ B4 (w.heap.size + 1) (.bool true) (.slice A' n' c') (.bool false) (.slice B' m' d') X := by
    subst hX
    obtain ⟨f1, f2, f3⟩ := frame4 w (.bool b1) (.slice A n c) (.bool false) (.slice B m d) (.bool true) (.slice A' n' c') (.bool false) (.slice B' m' d') (.bool false) (.slice none 0 0) (.bool false) (.slice none 0 0)
    exact ⟨f1, f2, f3, by simp [B4, go_sem], by simp [B4, go_sem]⟩
  obtain ⟨hwX, hsX, hWX, K4, K4'⟩ := hXX
  have za : w.heap.size < X.heap.size := by omega
  have zb : w.heap.size + 1 < X.heap.size := by omega
  have zc : w.heap.size + 1 + 1 < X.heap.size := by omega
  clear hX hsX
  have KX := Lib.hid K4
  have KX' := Lib.hid K4'
  obtain ⟨j0, j1, j2, j3⟩ := K4'
  clear K4
  go_cut [5] (fun s wx => ∃ Y : World, Y = wx ∧ CutQ X (.bool false) (.slice B' m' d') (.bool true) (.slice A' n' c') s Y)
  case first =>
    go_region_held3 (fun w' => w'.cell? ⟨w.heap.size + 1, 0, none⟩ = some (.bool true) ∧ w'.cell? ⟨w.heap.size + 1, 1, none⟩ = some (.slice A' n' c') ∧ w'.cell? ⟨w.heap.size + 1, 2, none⟩ = some (.bool false) ∧ w'.cell? ⟨w.heap.size + 1, 3, none⟩ = some (.slice B' m' d')) (simp [go_sem, World.cell?_alloc_past, *])
      (first
        | (go_at_call 38; (with_reducible refine (HLb.out _).mono ?_); rintro e w1 ⟨rfl, hB1⟩; (have R1 : Below X.heap.size X w1 := stepB (by repeat (first | exact Below.refl _ _ | refine Below.drew ?_ | refine Below.alloc ?_ (Nat.le_refl _) _)) hB1); have C1 := (bcell R1).1; have v1a := Nat.lt_of_lt_of_le za R1.size; have v1b := Nat.lt_of_lt_of_le zb R1.size; (try (have hwr := (Wr4.new _ (.bool false) (.slice none 0 0) (.bool false) (.slice none 0 0) 40 rfl).keep hB1)); (try (have hwr := (Wr4.new _ (.bool false) (.slice none 0 0) (.bool false) (.slice none 0 0) 40 rfl).keep (below_undrew' hB1))); (try (obtain ⟨⟨s1, s2, s3, s4, s5, s6, s7, s8⟩, u1, u2, u3, u4, u5⟩ := id hwr))))
    all_goals go_wp2_with fail
    all_goals go_meet
    all_goals first | exact ⟨_, rfl, cutQ_new R1⟩ | exact ⟨_, rfl, cutQ_set hwr R1 (by first | exact Nat.le_refl _ | exact R1.size)⟩
  case rest =>
    obtain ⟨Y, rfl, g5, rfl, hb5, hw5, hXY, hg5, hg5'⟩ := hcut
    have hwY := hwX.trans (hXY.mono hwX.size)
    have hWY := hWX.keep hXY
    have KY := Lib.hid (KX.out.keep za hXY)
    have KY' := Lib.hid (KX'.out.keep zb hXY)
    have ya := Nat.lt_of_lt_of_le za hXY.size
    have yb := Nat.lt_of_lt_of_le zb hXY.size
    have g5n : w.heap.size + 1 + 1 ≠ g5 := by omega
    have g5w : w.heap.size ≤ g5 := by omega
    have g5x : w.heap.size + 1 + 1 < g5 := by omega
    clear j0 j1 j2 j3 hWX KX KX' hXY hg5 za zb zc
    obtain ⟨j0, j1, j2, j3⟩ := KY'.out
    have H5 := Lib.hid hb5
    clear hb5
    go_wp2_with fail
    (with_reducible refine (HS.out _).mono ?_)
    rintro e w1 ⟨rfl, hB1⟩
    have hw1 := hwY.trans (hB1.mono hwY.size)
    have hW1 := hWY.keep hB1
    have hw51 := hw5.keep hB1
    have K1 := KY.out.keep ya hB1
    have K1' := KY'.out.keep yb hB1
    have H51 := H5.out.keep hg5' hB1
    have ua := Nat.lt_of_lt_of_le ya hB1.size
    have ub := Nat.lt_of_lt_of_le yb hB1.size
    have u5 := Nat.lt_of_lt_of_le hg5' hB1.size
    clear j0 j1 j2 j3 KY KY' H5 hWY hw5
    obtain ⟨j0, j1, j2, j3⟩ := K1'
    have hne : w.heap.size + 1 ≠ g5 := by omega
    have hne0 : w.heap.size ≠ g5 := by omega
    have U5 := Lib.hid u5
    clear u5 H51
    go_upto_region 3 with fail
    go_region_held3 (fun w' => w'.cell? ⟨w.heap.size + 1, 0, none⟩ = some (.bool true) ∧ w'.cell? ⟨w.heap.size + 1, 1, none⟩ = some (.slice A' n' c') ∧ w'.cell? ⟨w.heap.size + 1, 2, none⟩ = some (.bool false) ∧ w'.cell? ⟨w.heap.size + 1, 3, none⟩ = some (.slice B' m' d')) (simp [go_sem, *])
      (first
        | (go_at_call 38; (with_reducible refine (HLb.out _).mono ?_); rintro e v1 ⟨rfl, hC1⟩; (have R1 : Below w1.heap.size w1 v1 := stepB (by repeat (first | exact Below.refl _ _ | refine Below.drew ?_ | refine Below.alloc ?_ (Nat.le_refl _) _)) hC1); have C1 := (bcell R1).1; have W1 := hw1.trans (R1.mono hw1.size))
        | (go_at_call 50; (with_reducible refine (HN1.out _ (by repeat (first | exact W1 | refine Below.drew ?_ | refine Below.alloc ?_ (Below.size W1) _))).mono ?_); rintro e v2 ⟨p, A1, n1, c1, rfl, hp, hD1, hC2⟩; (have S2 : Below v1.heap.size v1 v2 := stepB (by repeat (first | exact Below.refl _ _ | refine Below.drew ?_ | refine Below.alloc ?_ (Nat.le_refl _) _)) hC2); have R2 := stepB R1 S2; have C2 := (bcell R2).1; have W2 := hw1.trans (R2.mono hw1.size))
        | (go_at_call 50; (with_reducible refine (HN2.out _ (by repeat (first | exact W2 | refine Below.drew ?_ | refine Below.alloc ?_ (Below.size W2) _))).mono ?_); rintro e v3 ⟨A2, n2, c2, rfl, hD2, hC3⟩; (have S3 : Below v2.heap.size v2 v3 := stepB (by repeat (first | exact Below.refl _ _ | refine Below.drew ?_ | refine Below.alloc ?_ (Nat.le_refl _) _)) hC3); have R3 := stepB R2 S3; have C3 := (bcell R3).1; have W3 := hw1.trans (R3.mono hw1.size); have hD1b := hD1.keep S3; have hw53 := hw51.keep R3; obtain ⟨⟨s1, s2, s3, s4, s5, s6, s7, s8⟩, t1, t2, t3, t4, t5⟩ := id hw53))
    go_upto_region 4 with fail
    generalize hZ : World.setCell _ _ _ = Z
    have hZZ : B4 g5 (.bool p) (.slice A1 n1 c1) (.bool false) (.slice A2 n2 c2) Z ∧ D Z (.slice A1 n1 c1) e1.natAbs ∧ D Z (.slice A2 n2 c2) e2 ∧ B4 w.heap.size (.bool b1) (.slice A n c) (.bool false) (.slice B m d) Z ∧ Wr4 (w.heap.size + 1 + 1) 40 Z ∧ Below w.heap.size w Z := by
      have kD : ∀ {v x}, D v3 v x → D ((((v3.setCell ⟨g5, 0, none⟩ (.bool p)).setCell ⟨g5, 1, none⟩ (.slice A1 n1 c1)).setCell ⟨g5, 2, none⟩ (.bool false)).setCell ⟨g5, 3, none⟩ (.slice A2 n2 c2)) v x := fun h => (((h.set t5 (by decide) _ _).set (t5.set _ _ _) (by decide) _ _).set ((t5.set _ _ _).set _ _ _) (by decide) _ _).set (((t5.set _ _ _).set _ _ _).set _ _ _) (by decide) _ _
      rw [← hZ]
      exact ⟨(hw53.set _ _ _ _).1, kD hD1b, kD hD2, (((((K1.keep ua R3).far hne0 _ _).far hne0 _ _).far hne0 _ _).far hne0 _ _), ((((hW1.keep R3).far g5n _ _).far g5n _ _).far g5n _ _).far g5n _ _, (((W3.setCell g5w _).setCell g5w _).setCell g5w _).setCell g5w _⟩
    obtain ⟨hb5, hE1, hE2, hK, hWZ, hwZ⟩ := hZZ
    clear hZ
    obtain ⟨k0, k1, k2, k3⟩ := hK
    obtain ⟨i0, i1, i2, i3⟩ := hb5
    clear j0 j1 j2 j3 s5 s6 s7 s8 t1 t2 t3 t4 C1 C2 C3
    go_wp2_with fail
    (with_reducible refine (HM.out _ p A1 n1 c1 A2 n2 c2 hwZ hp hE1 hE2).mono ?_)
    rintro e w2 ⟨A3, n3, c3, B3, m3, d3, rfl, hF1, hF2, hB2⟩
    obtain ⟨⟨o1, o2, o3, o4, o5, o6, o7, o8⟩, q1, q2, q3, q4, q5⟩ := hWZ.keep hB2
    have hw2 := hwZ.trans (hB2.mono hwZ.size)
    go_wp2_with fail
    exact bodyPost_ret (v := .agg #[.bool (decide (z.num < 0)), .slice A3 n3 c3, .bool false, .slice B3 m3 d3]) (by simp [results, Tryz.results27, go_sem, o5, o6, o7, o8]) rfl (retR_box' rfl hF1 hF2 q5 hw2 (by omega))

/-- exact.Rat.Quo, for a divisor other than 0. -/
theorem quoR_any (b1 b2 : Bool) (A B A' B' : Option Addr) (n c m d n' c' m' d' : Nat) (x y : Rat) (w : World) (hx : Q w b1 (.slice A n c) (.slice B m d) x) (hy : Q w b2 (.slice A' n' c') (.slice B' m' d') y)
    (hn : n ≤ 50000) (hm : m ≤ 50000) (hn' : n' ≤ 50000) (hm' : m' ≤ 50000) (hy1 : y.num.natAbs < 18446744073709551616) (hy2 : y.den < 18446744073709551616) (hy0 : y.num ≠ 0) :
    Calls Tryz.prog 27 #[.agg #[.bool b1, .slice A n c, .bool false, .slice B m d], .agg #[.bool b2, .slice A' n' c', .bool false, .slice B' m' d']] w (RetR (x / y) w) := by
  cases b2
  · exact quoR_pos b1 A B A' B' n c m d n' c' m' d' x y w hx hy hn hm hn' hm' hy1 hy2 hy0
  · exact quoR_neg b1 A B A' B' n c m d n' c' m' d' x y w hx hy hn hm hn' hm' hy1 hy2 hy0

end Go.Proofs.YtjoanclnaeephaaGreat
