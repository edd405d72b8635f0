/- num.Div on any numbers. -/
import Derived.Test.YtfhmhkbjcccejaaMNa

namespace Go.Proofs.Ytfhmhkbjcccejaa
open Go.RowKit

set_option maxRecDepth 100000 in
set_option maxHeartbeats 2000000 in
theorem div_bad1 (t l t' l' p1 p2 q : Int) (w : World) (h : vld t l = false)
    (HC : Hid (∀ wx, Calls Try.prog 39 #[.agg #[.int .i64 t, .int .i64 l], .agg #[.int .i64 t', .int .i64 l'], .func (.func 57) #[] #[]] wx fun e w' => e = .returned (.tuple #[.agg #[.int .i64 p1, .int .i64 p2], .int .i64 q]) ∧ Below wx.heap.size wx w')) :
    Calls Try.prog 26 #[.agg #[.int .i64 t, .int .i64 l], .agg #[.int .i64 t', .int .i64 l']] w fun e w' => e = .returned (.tuple #[.agg #[.int .i64 p1, .int .i64 p2], .int .i64 q]) ∧ Below w.heap.size w w' := by
  have HV : Hid (∀ wx, Calls Try.prog 35 #[.agg #[.int .i64 t, .int .i64 l]] wx fun e w' => e = .returned (.bool false) ∧ Below wx.heap.size wx w') := fun wx => by
    have := valid_any t l wx
    rw [h] at this
    exact this
  clear h
  go_enter Try.func26, Try.ntmps26
  go_upto_region 1 with fail
  obtain ⟨X, hX, hwX, hz, k0, k1, k2, k3, hW⟩ := boxes3 w (.int .i64 t) (.int .i64 l) (.int .i64 t') (.int .i64 l') (.int .i64 0) (.int .i64 0)
  rw [hX]
  clear hX
  have H0 : Hid (w.heap.size < X.heap.size) := (by omega : w.heap.size < X.heap.size)
  have H1 : Hid (w.heap.size + 1 < X.heap.size) := (by omega : w.heap.size + 1 < X.heap.size)
  clear hz
  go_wp2_with fail
  (with_reducible refine (HV.out X).mono ?_)
  rintro e w1 ⟨rfl, hB1⟩
  have R1 := Lib.hid hB1
  have l0 := (hB1.cell (p := ⟨w.heap.size, 0, none⟩) H0.out).trans k0
  have l1 := (hB1.cell (p := ⟨w.heap.size, 1, none⟩) H0.out).trans k1
  have l2 := (hB1.cell (p := ⟨w.heap.size + 1, 0, none⟩) H1.out).trans k2
  have l3 := (hB1.cell (p := ⟨w.heap.size + 1, 1, none⟩) H1.out).trans k3
  clear k0 k1 k2 k3 hB1
  go_wp2_with fail
  (with_reducible refine (HC.out w1).mono ?_)
  rintro e w9 ⟨rfl, hB9⟩
  have R9 := below_trans_same R1.out hB9
  clear l0 l1 l2 l3 hB9
  have B9 := hwX.trans (R9.mono hwX.size)
  obtain ⟨⟨c1, c2, c3, c4⟩, c5, c6, c7⟩ := hW.keep R9
  go_wp2_with fail
  exact bodyPost_ret (v := .tuple #[.agg #[.int .i64 p1, .int .i64 p2], .int .i64 q]) (by simp [results, Try.results26, go_sem, *]) rfl ⟨rfl, (B9.setCell (by show w.heap.size ≤ w.heap.size + 2; omega) _).setCell (by show w.heap.size ≤ w.heap.size + 2; omega) _⟩

set_option maxRecDepth 100000 in
set_option maxHeartbeats 2000000 in
theorem div_bad2 (t l t' l' p1 p2 q : Int) (w : World) (h : vld t l = true) (h' : vld t' l' = false)
    (HC : Hid (∀ wx, Calls Try.prog 39 #[.agg #[.int .i64 t, .int .i64 l], .agg #[.int .i64 t', .int .i64 l'], .func (.func 57) #[] #[]] wx fun e w' => e = .returned (.tuple #[.agg #[.int .i64 p1, .int .i64 p2], .int .i64 q]) ∧ Below wx.heap.size wx w')) :
    Calls Try.prog 26 #[.agg #[.int .i64 t, .int .i64 l], .agg #[.int .i64 t', .int .i64 l']] w fun e w' => e = .returned (.tuple #[.agg #[.int .i64 p1, .int .i64 p2], .int .i64 q]) ∧ Below w.heap.size w w' := by
  have HV : Hid (∀ wx, Calls Try.prog 35 #[.agg #[.int .i64 t, .int .i64 l]] wx fun e w' => e = .returned (.bool true) ∧ Below wx.heap.size wx w') := fun wx => by
    have := valid_any t l wx
    rw [h] at this
    exact this
  clear h
  have HV' : Hid (∀ wx, Calls Try.prog 35 #[.agg #[.int .i64 t', .int .i64 l']] wx fun e w' => e = .returned (.bool false) ∧ Below wx.heap.size wx w') := fun wx => by
    have := valid_any t' l' wx
    rw [h'] at this
    exact this
  clear h'
  go_enter Try.func26, Try.ntmps26
  go_upto_region 1 with fail
  obtain ⟨X, hX, hwX, hz, k0, k1, k2, k3, hW⟩ := boxes3 w (.int .i64 t) (.int .i64 l) (.int .i64 t') (.int .i64 l') (.int .i64 0) (.int .i64 0)
  rw [hX]
  clear hX
  have H0 : Hid (w.heap.size < X.heap.size) := (by omega : w.heap.size < X.heap.size)
  have H1 : Hid (w.heap.size + 1 < X.heap.size) := (by omega : w.heap.size + 1 < X.heap.size)
  clear hz
  go_wp2_with fail
  (with_reducible refine (HV.out X).mono ?_)
  rintro e w1 ⟨rfl, hB1⟩
  have R1 := Lib.hid hB1
  have l0 := (hB1.cell (p := ⟨w.heap.size, 0, none⟩) H0.out).trans k0
  have l1 := (hB1.cell (p := ⟨w.heap.size, 1, none⟩) H0.out).trans k1
  have l2 := (hB1.cell (p := ⟨w.heap.size + 1, 0, none⟩) H1.out).trans k2
  have l3 := (hB1.cell (p := ⟨w.heap.size + 1, 1, none⟩) H1.out).trans k3
  clear k0 k1 k2 k3 hB1
  go_wp2_with fail
  (with_reducible refine (HV'.out w1).mono ?_)
  rintro e w2 ⟨rfl, hB2⟩
  have R2 := Lib.hid (below_trans_same R1.out hB2)
  have k0 := (R2.out.cell (p := ⟨w.heap.size, 0, none⟩) H0.out).trans ((R1.out.cell (p := ⟨w.heap.size, 0, none⟩) H0.out).symm.trans l0)
  have k1 := (R2.out.cell (p := ⟨w.heap.size, 1, none⟩) H0.out).trans ((R1.out.cell (p := ⟨w.heap.size, 1, none⟩) H0.out).symm.trans l1)
  have k2 := (R2.out.cell (p := ⟨w.heap.size + 1, 0, none⟩) H1.out).trans ((R1.out.cell (p := ⟨w.heap.size + 1, 0, none⟩) H1.out).symm.trans l2)
  have k3 := (R2.out.cell (p := ⟨w.heap.size + 1, 1, none⟩) H1.out).trans ((R1.out.cell (p := ⟨w.heap.size + 1, 1, none⟩) H1.out).symm.trans l3)
  clear l0 l1 l2 l3 hB2
  go_wp2_with fail
  (with_reducible refine (HC.out w2).mono ?_)
  rintro e w9 ⟨rfl, hB9⟩
  have R9 := below_trans_same R2.out hB9
  clear k0 k1 k2 k3 hB9
  have B9 := hwX.trans (R9.mono hwX.size)
  obtain ⟨⟨c1, c2, c3, c4⟩, c5, c6, c7⟩ := hW.keep R9
  go_wp2_with fail
  exact bodyPost_ret (v := .tuple #[.agg #[.int .i64 p1, .int .i64 p2], .int .i64 q]) (by simp [results, Try.results26, go_sem, *]) rfl ⟨rfl, (B9.setCell (by show w.heap.size ≤ w.heap.size + 2; omega) _).setCell (by show w.heap.size ≤ w.heap.size + 2; omega) _⟩

set_option maxRecDepth 100000 in
set_option maxHeartbeats 2000000 in
theorem div_zero (t l t' l' : Int) (w : World) (h : vld t l = true) (h' : vld t' l' = true) (hz0 : (t' == 0) = true) :
    Calls Try.prog 26 #[.agg #[.int .i64 t, .int .i64 l], .agg #[.int .i64 t', .int .i64 l']] w fun e w' => e = .returned (.tuple #[.agg #[.int .i64 0, .int .i64 0], .int .i64 5]) ∧ Below w.heap.size w w' := by
  have HV : Hid (∀ wx, Calls Try.prog 35 #[.agg #[.int .i64 t, .int .i64 l]] wx fun e w' => e = .returned (.bool true) ∧ Below wx.heap.size wx w') := fun wx => by
    have := valid_any t l wx
    rw [h] at this
    exact this
  clear h
  have HV' : Hid (∀ wx, Calls Try.prog 35 #[.agg #[.int .i64 t', .int .i64 l']] wx fun e w' => e = .returned (.bool true) ∧ Below wx.heap.size wx w') := fun wx => by
    have := valid_any t' l' wx
    rw [h'] at this
    exact this
  clear h'
  go_enter Try.func26, Try.ntmps26
  go_upto_region 1 with fail
  obtain ⟨X, hX, hwX, hz, k0, k1, k2, k3, hW⟩ := boxes3 w (.int .i64 t) (.int .i64 l) (.int .i64 t') (.int .i64 l') (.int .i64 0) (.int .i64 0)
  rw [hX]
  clear hX
  have H0 : Hid (w.heap.size < X.heap.size) := (by omega : w.heap.size < X.heap.size)
  have H1 : Hid (w.heap.size + 1 < X.heap.size) := (by omega : w.heap.size + 1 < X.heap.size)
  clear hz
  go_wp2_with fail
  (with_reducible refine (HV.out X).mono ?_)
  rintro e w1 ⟨rfl, hB1⟩
  have R1 := Lib.hid hB1
  have l0 := (hB1.cell (p := ⟨w.heap.size, 0, none⟩) H0.out).trans k0
  have l1 := (hB1.cell (p := ⟨w.heap.size, 1, none⟩) H0.out).trans k1
  have l2 := (hB1.cell (p := ⟨w.heap.size + 1, 0, none⟩) H1.out).trans k2
  have l3 := (hB1.cell (p := ⟨w.heap.size + 1, 1, none⟩) H1.out).trans k3
  clear k0 k1 k2 k3 hB1
  go_wp2_with fail
  (with_reducible refine (HV'.out w1).mono ?_)
  rintro e w2 ⟨rfl, hB2⟩
  have R2 := Lib.hid (below_trans_same R1.out hB2)
  have k0 := (R2.out.cell (p := ⟨w.heap.size, 0, none⟩) H0.out).trans ((R1.out.cell (p := ⟨w.heap.size, 0, none⟩) H0.out).symm.trans l0)
  have k1 := (R2.out.cell (p := ⟨w.heap.size, 1, none⟩) H0.out).trans ((R1.out.cell (p := ⟨w.heap.size, 1, none⟩) H0.out).symm.trans l1)
  have k2 := (R2.out.cell (p := ⟨w.heap.size + 1, 0, none⟩) H1.out).trans ((R1.out.cell (p := ⟨w.heap.size + 1, 0, none⟩) H1.out).symm.trans l2)
  have k3 := (R2.out.cell (p := ⟨w.heap.size + 1, 1, none⟩) H1.out).trans ((R1.out.cell (p := ⟨w.heap.size + 1, 1, none⟩) H1.out).symm.trans l3)
  clear l0 l1 l2 l3 hB2
  have R9 := R2.out
  have B9 := hwX.trans (R9.mono hwX.size)
  obtain ⟨⟨c1, c2, c3, c4⟩, c5, c6, c7⟩ := hW.keep R9
  go_wp2_with fail
  exact bodyPost_ret (v := .tuple #[.agg #[.int .i64 0, .int .i64 0], .int .i64 5]) (by simp [results, Try.results26, go_sem, *]) rfl ⟨rfl, (B9.setCell (by show w.heap.size ≤ w.heap.size + 2; omega) _).setCell (by show w.heap.size ≤ w.heap.size + 2; omega) _⟩

set_option maxRecDepth 100000 in
set_option maxHeartbeats 2000000 in
theorem div_ok (t l t' l' p1 p2 q : Int) (w : World) (h : vld t l = true) (h' : vld t' l' = true) (hz0 : (t' == 0) = false)
    (HC : Hid (∀ wx, Calls Try.prog 39 #[.agg #[.int .i64 t, .int .i64 l], .agg #[.int .i64 t', .int .i64 l'], .func (.func 57) #[] #[]] wx fun e w' => e = .returned (.tuple #[.agg #[.int .i64 p1, .int .i64 p2], .int .i64 q]) ∧ Below wx.heap.size wx w')) :
    Calls Try.prog 26 #[.agg #[.int .i64 t, .int .i64 l], .agg #[.int .i64 t', .int .i64 l']] w fun e w' => e = .returned (.tuple #[.agg #[.int .i64 p1, .int .i64 p2], .int .i64 q]) ∧ Below w.heap.size w w' := by
  have HV : Hid (∀ wx, Calls Try.prog 35 #[.agg #[.int .i64 t, .int .i64 l]] wx fun e w' => e = .returned (.bool true) ∧ Below wx.heap.size wx w') := fun wx => by
    have := valid_any t l wx
    rw [h] at this
    exact this
  clear h
  have HV' : Hid (∀ wx, Calls Try.prog 35 #[.agg #[.int .i64 t', .int .i64 l']] wx fun e w' => e = .returned (.bool true) ∧ Below wx.heap.size wx w') := fun wx => by
    have := valid_any t' l' wx
    rw [h'] at this
    exact this
  clear h'
  go_enter Try.func26, Try.ntmps26
  go_upto_region 1 with fail
  obtain ⟨X, hX, hwX, hz, k0, k1, k2, k3, hW⟩ := boxes3 w (.int .i64 t) (.int .i64 l) (.int .i64 t') (.int .i64 l') (.int .i64 0) (.int .i64 0)
  rw [hX]
  clear hX
  have H0 : Hid (w.heap.size < X.heap.size) := (by omega : w.heap.size < X.heap.size)
  have H1 : Hid (w.heap.size + 1 < X.heap.size) := (by omega : w.heap.size + 1 < X.heap.size)
  clear hz
  go_wp2_with fail
  (with_reducible refine (HV.out X).mono ?_)
  rintro e w1 ⟨rfl, hB1⟩
  have R1 := Lib.hid hB1
  have l0 := (hB1.cell (p := ⟨w.heap.size, 0, none⟩) H0.out).trans k0
  have l1 := (hB1.cell (p := ⟨w.heap.size, 1, none⟩) H0.out).trans k1
  have l2 := (hB1.cell (p := ⟨w.heap.size + 1, 0, none⟩) H1.out).trans k2
  have l3 := (hB1.cell (p := ⟨w.heap.size + 1, 1, none⟩) H1.out).trans k3
  clear k0 k1 k2 k3 hB1
  go_wp2_with fail
  (with_reducible refine (HV'.out w1).mono ?_)
  rintro e w2 ⟨rfl, hB2⟩
  have R2 := Lib.hid (below_trans_same R1.out hB2)
  have k0 := (R2.out.cell (p := ⟨w.heap.size, 0, none⟩) H0.out).trans ((R1.out.cell (p := ⟨w.heap.size, 0, none⟩) H0.out).symm.trans l0)
  have k1 := (R2.out.cell (p := ⟨w.heap.size, 1, none⟩) H0.out).trans ((R1.out.cell (p := ⟨w.heap.size, 1, none⟩) H0.out).symm.trans l1)
  have k2 := (R2.out.cell (p := ⟨w.heap.size + 1, 0, none⟩) H1.out).trans ((R1.out.cell (p := ⟨w.heap.size + 1, 0, none⟩) H1.out).symm.trans l2)
  have k3 := (R2.out.cell (p := ⟨w.heap.size + 1, 1, none⟩) H1.out).trans ((R1.out.cell (p := ⟨w.heap.size + 1, 1, none⟩) H1.out).symm.trans l3)
  clear l0 l1 l2 l3 hB2
  go_wp2_with fail
  (with_reducible refine (HC.out w2).mono ?_)
  rintro e w9 ⟨rfl, hB9⟩
  have R9 := below_trans_same R2.out hB9
  clear k0 k1 k2 k3 hB9
  have B9 := hwX.trans (R9.mono hwX.size)
  obtain ⟨⟨c1, c2, c3, c4⟩, c5, c6, c7⟩ := hW.keep R9
  go_wp2_with fail
  exact bodyPost_ret (v := .tuple #[.agg #[.int .i64 p1, .int .i64 p2], .int .i64 q]) (by simp [results, Try.results26, go_sem, *]) rfl ⟨rfl, (B9.setCell (by show w.heap.size ≤ w.heap.size + 2; omega) _).setCell (by show w.heap.size ≤ w.heap.size + 2; omega) _⟩


/-- The parts and the error of a quotient. -/
def divT (t l t' l' : Int) : Int × Int × Int := if vld t l && vld t' l' then if (t' == 0) = true then (0, 0, 5) else outT (fr t l / fr t' l') else (0, 0, 1)

theorem divNum_any (t l t' l' : Int) (w : World) :
    Calls Try.prog 26 #[.agg #[.int .i64 t, .int .i64 l], .agg #[.int .i64 t', .int .i64 l']] w fun e w' => e = .returned (val3 (divT t l t' l')) ∧ Below w.heap.size w w' := by
  unfold divT
  cases h : vld t l
  · exact div_bad1 t l t' l' _ _ _ w h (Lib.hid fun wx => operate_bad1 t l t' l' _ wx h)
  · cases h' : vld t' l'
    · exact div_bad2 t l t' l' _ _ _ w h h' (Lib.hid fun wx => operate_bad2 t l t' l' _ wx h h')
    · cases hz : (t' == 0)
      · refine div_ok t l t' l' _ _ _ w h h' hz (Lib.hid fun wx => ?_)
        obtain ⟨x, rfl, rfl, hx⟩ := vld_rat h
        obtain ⟨y, rfl, rfl, hy⟩ := vld_rat h'
        have := quoN_ok x y wx h h' (by simpa using hz)
        rw [outN_val] at this
        rw [hx, hy]
        exact this
      · exact div_zero t l t' l' w h h' hz

end Go.Proofs.Ytfhmhkbjcccejaa
