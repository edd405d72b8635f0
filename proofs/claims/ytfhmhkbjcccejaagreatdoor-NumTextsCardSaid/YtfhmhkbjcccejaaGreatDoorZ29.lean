/- Operations on two numbers. -/
import Derived.Test.YtfhmhkbjcccejaaGreatDoorZ27
import Derived.Test.YtfhmhkbjcccejaaGreatDoorZ28

namespace Go.Proofs.YtfhmhkbjcccejaaGreatDoor
open Go.RowKit

instance (z : Rat) : Decidable (Fits z) := inferInstanceAs (Decidable (_ ∧ _))

/-- The number of a fraction, or ErrFull. -/
def outN (z : Rat) : Value := if Fits z then .tuple #[.agg #[.int .i64 z.num, .int .i64 (z.den : Int)], .int .i64 0] else .tuple #[.agg #[.int .i64 0, .int .i64 0], .int .i64 3]

theorem num_any (b : Bool) (A B : Option Addr) (n c m d : Nat) (x : Rat) (w : World) (h : Q w b (.slice A n c) (.slice B m d) x) (hn : n ≤ 400000) (hm : m ≤ 400000) :
    Calls Tryz.prog 22 #[.agg #[.bool b, .slice A n c, .bool false, .slice B m d]] w fun e w' => e = .returned (outN x) ∧ Below w.heap.size w w' := by
  by_cases hf : Fits x
  · have e : outN x = .tuple #[.agg #[.int .i64 x.num, .int .i64 (x.den : Int)], .int .i64 0] := if_pos hf
    rw [e]
    exact num_ok b A B n c m d x w h hm hf
  · have e : outN x = .tuple #[.agg #[.int .i64 0, .int .i64 0], .int .i64 3] := if_neg hf
    rw [e]
    exact num_full b A B n c m d x w h hn hm hf

/-- Three boxes of numbers. -/
theorem boxes3 (w : World) (t l t' l' u v : Value) : ∃ X, ((w.alloc (.cells #[t, l] 23)).alloc (.cells #[t', l'] 23)).alloc (.cells #[u, v] 23) = X ∧ Below w.heap.size w X ∧ X.heap.size = w.heap.size + 3 ∧
    X.cell? ⟨w.heap.size, 0, none⟩ = some t ∧ X.cell? ⟨w.heap.size, 1, none⟩ = some l ∧ X.cell? ⟨w.heap.size + 1, 0, none⟩ = some t' ∧ X.cell? ⟨w.heap.size + 1, 1, none⟩ = some l' ∧ Wr (w.heap.size + 2) 23 X := by
  refine ⟨_, rfl, (((Below.refl _ _).alloc (Nat.le_refl _) _).alloc (by simp) _).alloc (by simp; omega) _, by simp, by simp [go_sem], by simp [go_sem], by simp [go_sem], by simp [go_sem], Wr.new _ _ _ 23 (by simp)⟩

theorem vld_num {x : Rat} (h : vld x.num (x.den : Int) = true) : -9223372036854775808 ≤ x.num ∧ x.num ≤ 9223372036854775807 ∧ x.den ≤ 9223372036854775807 := by
  simp [vld] at h
  omega

set_option maxRecDepth 100000 in
set_option maxHeartbeats 2000000 in
theorem operate_bad1 (t l t' l' : Int) (f : Value) (w : World) (h : vld t l = false) :
    Calls Tryz.prog 28 #[.agg #[.int .i64 t, .int .i64 l], .agg #[.int .i64 t', .int .i64 l'], f] w fun e w' => e = .returned (.tuple #[.agg #[.int .i64 0, .int .i64 0], .int .i64 1]) ∧ Below w.heap.size w w' := by
  have HV : Hid (∀ wx, Calls Tryz.prog 11 #[.agg #[.int .i64 t, .int .i64 l]] wx fun e w' => e = .returned (.bool false) ∧ Below wx.heap.size wx w') := fun wx => by
    have := valid_any t l wx
    rw [h] at this
    exact this
  clear h
  go_enter Tryz.func28, Tryz.ntmps28
  go_upto_region 1 with fail
  obtain ⟨X, hX, hwX, hz, k0, k1, k2, k3, hW⟩ := boxes3 w (.int .i64 t) (.int .i64 l) (.int .i64 t') (.int .i64 l') (.int .i64 0) (.int .i64 0)
  rw [hX]
  clear hX
  have h0 : w.heap.size < X.heap.size := by omega
  go_wp2_with fail
  (with_reducible refine (HV.out X).mono ?_)
  rintro e w1 ⟨rfl, hB1⟩
  have B1 := hwX.trans (hB1.mono hwX.size)
  obtain ⟨⟨p1, p2, p3, p4⟩, p5, p6, p7⟩ := hW.keep hB1
  clear k0 k1 k2 k3 hz h0
  go_wp2_with fail
  exact bodyPost_ret (v := .tuple #[.agg #[.int .i64 0, .int .i64 0], .int .i64 1]) (by simp [results, Tryz.results28, go_sem, *]) rfl ⟨rfl, (B1.setCell (by show w.heap.size ≤ w.heap.size + 2; omega) _).setCell (by show w.heap.size ≤ w.heap.size + 2; omega) _⟩

set_option maxRecDepth 100000 in
set_option maxHeartbeats 2000000 in
theorem operate_bad2 (t l t' l' : Int) (f : Value) (w : World) (h : vld t l = true) (h' : vld t' l' = false) :
    Calls Tryz.prog 28 #[.agg #[.int .i64 t, .int .i64 l], .agg #[.int .i64 t', .int .i64 l'], f] w fun e w' => e = .returned (.tuple #[.agg #[.int .i64 0, .int .i64 0], .int .i64 1]) ∧ Below w.heap.size w w' := by
  have HV : Hid (∀ wx, Calls Tryz.prog 11 #[.agg #[.int .i64 t, .int .i64 l]] wx fun e w' => e = .returned (.bool true) ∧ Below wx.heap.size wx w') := fun wx => by
    have := valid_any t l wx
    rw [h] at this
    exact this
  have HV' : Hid (∀ wx, Calls Tryz.prog 11 #[.agg #[.int .i64 t', .int .i64 l']] wx fun e w' => e = .returned (.bool false) ∧ Below wx.heap.size wx w') := fun wx => by
    have := valid_any t' l' wx
    rw [h'] at this
    exact this
  clear h h'
  go_enter Tryz.func28, Tryz.ntmps28
  go_upto_region 1 with fail
  obtain ⟨X, hX, hwX, hz, k0, k1, k2, k3, hW⟩ := boxes3 w (.int .i64 t) (.int .i64 l) (.int .i64 t') (.int .i64 l') (.int .i64 0) (.int .i64 0)
  rw [hX]
  clear hX
  have h0 : w.heap.size < X.heap.size := by omega
  have h1 : w.heap.size + 1 < X.heap.size := by omega
  clear hz
  go_wp2_with fail
  (with_reducible refine (HV.out X).mono ?_)
  rintro e w1 ⟨rfl, hB1⟩
  have l0 := (hB1.cell (p := ⟨w.heap.size, 0, none⟩) h0).trans k0
  have l1 := (hB1.cell (p := ⟨w.heap.size, 1, none⟩) h0).trans k1
  have l2 := (hB1.cell (p := ⟨w.heap.size + 1, 0, none⟩) h1).trans k2
  have l3 := (hB1.cell (p := ⟨w.heap.size + 1, 1, none⟩) h1).trans k3
  clear k0 k1 k2 k3 h0 h1
  go_wp2_with fail
  (with_reducible refine (HV'.out w1).mono ?_)
  rintro e w2 ⟨rfl, hB2⟩
  have hB := below_trans_same hB1 hB2
  have B2 := hwX.trans (hB.mono hwX.size)
  obtain ⟨⟨p1, p2, p3, p4⟩, p5, p6, p7⟩ := hW.keep hB
  clear l0 l1 l2 l3 
  go_wp2_with fail
  exact bodyPost_ret (v := .tuple #[.agg #[.int .i64 0, .int .i64 0], .int .i64 1]) (by simp [results, Tryz.results28, go_sem, *]) rfl ⟨rfl, (B2.setCell (by show w.heap.size ≤ w.heap.size + 2; omega) _).setCell (by show w.heap.size ≤ w.heap.size + 2; omega) _⟩

theorem outN_shape (z : Rat) : ∃ u1 u2 q, outN z = .tuple #[.agg #[.int .i64 u1, .int .i64 u2], .int .i64 q] := by
  unfold outN
  split
  · exact ⟨_, _, _, rfl⟩
  · exact ⟨_, _, _, rfl⟩

set_option maxRecDepth 100000 in
set_option maxHeartbeats 2000000 in
theorem operate_55 (x y z : Rat) (w : World) (h : vld x.num (x.den : Int) = true) (h' : vld y.num (y.den : Int) = true) (hz1 : z.num.natAbs < W ^ 1000) (hz2 : z.den < W ^ 1000)
    (HF : Hid (∀ wx A n c B m d A' n' c' B' m' d', D wx (.slice A n c) x.num.natAbs → D wx (.slice B m d) x.den → D wx (.slice A' n' c') y.num.natAbs → D wx (.slice B' m' d') y.den →
      Calls Tryz.prog 29 #[.agg #[.bool (decide (x.num < 0)), .slice A n c, .bool false, .slice B m d], .agg #[.bool (decide (y.num < 0)), .slice A' n' c', .bool false, .slice B' m' d']] wx (RetR z wx))) :
    Calls Tryz.prog 28 #[.agg #[.int .i64 x.num, .int .i64 (x.den : Int)], .agg #[.int .i64 y.num, .int .i64 (y.den : Int)], .func (.func 29) #[] #[]] w fun e w' => e = .returned (outN z) ∧ Below w.heap.size w w' := by
  have HV : Hid (∀ wx, Calls Tryz.prog 11 #[.agg #[.int .i64 x.num, .int .i64 (x.den : Int)]] wx fun e w' => e = .returned (.bool true) ∧ Below wx.heap.size wx w') := fun wx => by
    have := valid_any x.num (x.den : Int) wx
    rw [h] at this
    exact this
  have HV' : Hid (∀ wx, Calls Tryz.prog 11 #[.agg #[.int .i64 y.num, .int .i64 (y.den : Int)]] wx fun e w' => e = .returned (.bool true) ∧ Below wx.heap.size wx w') := fun wx => by
    have := valid_any y.num (y.den : Int) wx
    rw [h'] at this
    exact this
  have HO1 : Hid (∀ wx, Calls Tryz.prog 31 #[.agg #[.int .i64 x.num, .int .i64 (x.den : Int)]] wx (RetR x wx)) := fun wx => of_any x wx (vld_num h).1 (vld_num h).2.1 (vld_num h).2.2
  have HO2 : Hid (∀ wx, Calls Tryz.prog 31 #[.agg #[.int .i64 y.num, .int .i64 (y.den : Int)]] wx (RetR y wx)) := fun wx => of_any y wx (vld_num h').1 (vld_num h').2.1 (vld_num h').2.2
  obtain ⟨u1, u2, q, hout⟩ := outN_shape z
  have HN : Hid (∀ wx A n c B m d, D wx (.slice A n c) z.num.natAbs → D wx (.slice B m d) z.den → Calls Tryz.prog 22 #[.agg #[.bool (decide (z.num < 0)), .slice A n c, .bool false, .slice B m d]] wx fun e w' => e = .returned (.tuple #[.agg #[.int .i64 u1, .int .i64 u2], .int .i64 q]) ∧ Below wx.heap.size wx w') := fun wx A n c B m d k1 k2 => by
    have e1 := k1.len hz1
    have e2 := k2.len hz2
    have := num_any (decide (z.num < 0)) A B n c m d z wx ⟨rfl, k1, k2⟩ (by omega) (by omega)
    rw [hout] at this
    exact this
  rw [hout]
  clear h h' hz1 hz2 hout
  go_enter Tryz.func28, Tryz.ntmps28
  go_upto_region 1 with fail
  obtain ⟨X, hX, hwX, hz, k0, k1, k2, k3, hW⟩ := boxes3 w (.int .i64 x.num) (.int .i64 (x.den : Int)) (.int .i64 y.num) (.int .i64 (y.den : Int)) (.int .i64 0) (.int .i64 0)
  rw [hX]
  clear hX
  have h0 : w.heap.size < X.heap.size := by omega
  have h1 : w.heap.size + 1 < X.heap.size := by omega
  clear hz
  go_wp2_with fail
  (with_reducible refine (HV.out X).mono ?_)
  rintro e w1 ⟨rfl, hB1⟩
  have l0 := (hB1.cell (p := ⟨w.heap.size, 0, none⟩) h0).trans k0
  have l1 := (hB1.cell (p := ⟨w.heap.size, 1, none⟩) h0).trans k1
  have l2 := (hB1.cell (p := ⟨w.heap.size + 1, 0, none⟩) h1).trans k2
  have l3 := (hB1.cell (p := ⟨w.heap.size + 1, 1, none⟩) h1).trans k3
  have h0 := Nat.lt_of_lt_of_le h0 hB1.size
  have h1 := Nat.lt_of_lt_of_le h1 hB1.size
  have HB1 := Lib.hid hB1
  clear k0 k1 k2 k3 hB1
  have H0 := Lib.hid h0
  have H1 := Lib.hid h1
  clear h0 h1
  go_wp2_with fail
  (with_reducible refine (HV'.out w1).mono ?_)
  rintro e w2 ⟨rfl, hB2⟩
  have k0 := (hB2.cell (p := ⟨w.heap.size, 0, none⟩) H0.out).trans l0
  have k1 := (hB2.cell (p := ⟨w.heap.size, 1, none⟩) H0.out).trans l1
  have k2 := (hB2.cell (p := ⟨w.heap.size + 1, 0, none⟩) H1.out).trans l2
  have k3 := (hB2.cell (p := ⟨w.heap.size + 1, 1, none⟩) H1.out).trans l3
  have h0 := Nat.lt_of_lt_of_le H0.out hB2.size
  have h1 := Nat.lt_of_lt_of_le H1.out hB2.size
  have hB := below_trans_same HB1.out hB2
  have hw2 := hwX.trans (hB.mono hwX.size)
  have hW2 := hW.keep hB
  clear l0 l1 l2 l3 hB2 hB HB1 hW H0 H1 HV HV' hwX
  go_upto_region 3 with fail
  go_region_held3 (fun w' => w'.cell? ⟨w.heap.size, 0, none⟩ = some (.int .i64 x.num) ∧ w'.cell? ⟨w.heap.size, 1, none⟩ = some (.int .i64 (x.den : Int)) ∧ w'.cell? ⟨w.heap.size + 1, 0, none⟩ = some (.int .i64 y.num) ∧ w'.cell? ⟨w.heap.size + 1, 1, none⟩ = some (.int .i64 (y.den : Int))) (simp [go_sem, *])
    (first
      | (go_at_call 31; (with_reducible refine (HO1.out _).mono ?_); rintro e w3 ⟨A, n, c, B, m, d, rfl, hD1, hE1, hB3⟩; (have R3 : Below w2.heap.size w2 w3 := by first | exact hB3 | exact below_undrew' hB3); have C3 := (bcell R3).1)
      | (go_at_call 31; (with_reducible refine (HO2.out _).mono ?_); rintro e w4 ⟨A', n', c', B', m', d', rfl, hD2, hE2, hB4⟩; (have S4 : Below w3.heap.size w3 w4 := by first | exact hB4 | exact below_undrew' hB4); have R4 := stepB R3 S4; have C4 := (bcell R4).1; have hD1' := hD1.keep S4; have hE1' := hE1.keep S4)
      | (go_at_call 29; (with_reducible refine (HF.out _ A n c B m d A' n' c' B' m' d' (by first | exact hD1' | exact D.drew hD1') (by first | exact hE1' | exact D.drew hE1') (by first | exact hD2 | exact D.drew hD2) (by first | exact hE2 | exact D.drew hE2)).mono ?_); rintro e w5 ⟨A1, n1, c1, B1, m1, d1, rfl, hD3, hE3, hB5⟩; (have S5 : Below w4.heap.size w4 w5 := by first | exact hB5 | exact below_undrew' hB5); have R5 := stepB R4 S5; have C5 := (bcell R5).1)
      | (go_at_call 22; (with_reducible refine (HN.out _ A1 n1 c1 B1 m1 d1 (by first | exact hD3 | exact D.drew hD3) (by first | exact hE3 | exact D.drew hE3)).mono ?_); rintro e w6 ⟨rfl, hB6⟩; (have S6 : Below w5.heap.size w5 w6 := by first | exact hB6 | exact below_undrew' hB6); have R6 := stepB R5 S6; have C6 := (bcell R6).1; obtain ⟨⟨p1, p2, p3, p4⟩, p5, p6, p7⟩ := hW2.keep R6))
  all_goals go_wp2_with fail
  exact bodyPost_ret (v := .tuple #[.agg #[.int .i64 u1, .int .i64 u2], .int .i64 q]) (by simp [results, Tryz.results28, go_sem, *]) rfl ⟨rfl, ((hw2.trans (R6.mono hw2.size)).setCell (by show w.heap.size ≤ w.heap.size + 2; omega) _).setCell (by show w.heap.size ≤ w.heap.size + 2; omega) _⟩

set_option maxRecDepth 100000 in
set_option maxHeartbeats 2000000 in
theorem operate_38 (x y z : Rat) (w : World) (h : vld x.num (x.den : Int) = true) (h' : vld y.num (y.den : Int) = true) (hz1 : z.num.natAbs < W ^ 1000) (hz2 : z.den < W ^ 1000)
    (HF : Hid (∀ wx A n c B m d A' n' c' B' m' d', D wx (.slice A n c) x.num.natAbs → D wx (.slice B m d) x.den → D wx (.slice A' n' c') y.num.natAbs → D wx (.slice B' m' d') y.den →
      Calls Tryz.prog 32 #[.agg #[.bool (decide (x.num < 0)), .slice A n c, .bool false, .slice B m d], .agg #[.bool (decide (y.num < 0)), .slice A' n' c', .bool false, .slice B' m' d']] wx (RetR z wx))) :
    Calls Tryz.prog 28 #[.agg #[.int .i64 x.num, .int .i64 (x.den : Int)], .agg #[.int .i64 y.num, .int .i64 (y.den : Int)], .func (.func 32) #[] #[]] w fun e w' => e = .returned (outN z) ∧ Below w.heap.size w w' := by
  have HV : Hid (∀ wx, Calls Tryz.prog 11 #[.agg #[.int .i64 x.num, .int .i64 (x.den : Int)]] wx fun e w' => e = .returned (.bool true) ∧ Below wx.heap.size wx w') := fun wx => by
    have := valid_any x.num (x.den : Int) wx
    rw [h] at this
    exact this
  have HV' : Hid (∀ wx, Calls Tryz.prog 11 #[.agg #[.int .i64 y.num, .int .i64 (y.den : Int)]] wx fun e w' => e = .returned (.bool true) ∧ Below wx.heap.size wx w') := fun wx => by
    have := valid_any y.num (y.den : Int) wx
    rw [h'] at this
    exact this
  have HO1 : Hid (∀ wx, Calls Tryz.prog 31 #[.agg #[.int .i64 x.num, .int .i64 (x.den : Int)]] wx (RetR x wx)) := fun wx => of_any x wx (vld_num h).1 (vld_num h).2.1 (vld_num h).2.2
  have HO2 : Hid (∀ wx, Calls Tryz.prog 31 #[.agg #[.int .i64 y.num, .int .i64 (y.den : Int)]] wx (RetR y wx)) := fun wx => of_any y wx (vld_num h').1 (vld_num h').2.1 (vld_num h').2.2
  obtain ⟨u1, u2, q, hout⟩ := outN_shape z
  have HN : Hid (∀ wx A n c B m d, D wx (.slice A n c) z.num.natAbs → D wx (.slice B m d) z.den → Calls Tryz.prog 22 #[.agg #[.bool (decide (z.num < 0)), .slice A n c, .bool false, .slice B m d]] wx fun e w' => e = .returned (.tuple #[.agg #[.int .i64 u1, .int .i64 u2], .int .i64 q]) ∧ Below wx.heap.size wx w') := fun wx A n c B m d k1 k2 => by
    have e1 := k1.len hz1
    have e2 := k2.len hz2
    have := num_any (decide (z.num < 0)) A B n c m d z wx ⟨rfl, k1, k2⟩ (by omega) (by omega)
    rw [hout] at this
    exact this
  rw [hout]
  clear h h' hz1 hz2 hout
  go_enter Tryz.func28, Tryz.ntmps28
  go_upto_region 1 with fail
  obtain ⟨X, hX, hwX, hz, k0, k1, k2, k3, hW⟩ := boxes3 w (.int .i64 x.num) (.int .i64 (x.den : Int)) (.int .i64 y.num) (.int .i64 (y.den : Int)) (.int .i64 0) (.int .i64 0)
  rw [hX]
  clear hX
  have h0 : w.heap.size < X.heap.size := by omega
  have h1 : w.heap.size + 1 < X.heap.size := by omega
  clear hz
  go_wp2_with fail
  (with_reducible refine (HV.out X).mono ?_)
  rintro e w1 ⟨rfl, hB1⟩
  have l0 := (hB1.cell (p := ⟨w.heap.size, 0, none⟩) h0).trans k0
  have l1 := (hB1.cell (p := ⟨w.heap.size, 1, none⟩) h0).trans k1
  have l2 := (hB1.cell (p := ⟨w.heap.size + 1, 0, none⟩) h1).trans k2
  have l3 := (hB1.cell (p := ⟨w.heap.size + 1, 1, none⟩) h1).trans k3
  have h0 := Nat.lt_of_lt_of_le h0 hB1.size
  have h1 := Nat.lt_of_lt_of_le h1 hB1.size
  have HB1 := Lib.hid hB1
  clear k0 k1 k2 k3 hB1
  have H0 := Lib.hid h0
  have H1 := Lib.hid h1
  clear h0 h1
  go_wp2_with fail
  (with_reducible refine (HV'.out w1).mono ?_)
  rintro e w2 ⟨rfl, hB2⟩
  have k0 := (hB2.cell (p := ⟨w.heap.size, 0, none⟩) H0.out).trans l0
  have k1 := (hB2.cell (p := ⟨w.heap.size, 1, none⟩) H0.out).trans l1
  have k2 := (hB2.cell (p := ⟨w.heap.size + 1, 0, none⟩) H1.out).trans l2
  have k3 := (hB2.cell (p := ⟨w.heap.size + 1, 1, none⟩) H1.out).trans l3
  have h0 := Nat.lt_of_lt_of_le H0.out hB2.size
  have h1 := Nat.lt_of_lt_of_le H1.out hB2.size
  have hB := below_trans_same HB1.out hB2
  have hw2 := hwX.trans (hB.mono hwX.size)
  have hW2 := hW.keep hB
  clear l0 l1 l2 l3 hB2 hB HB1 hW H0 H1 HV HV' hwX
  go_upto_region 3 with fail
  go_region_held3 (fun w' => w'.cell? ⟨w.heap.size, 0, none⟩ = some (.int .i64 x.num) ∧ w'.cell? ⟨w.heap.size, 1, none⟩ = some (.int .i64 (x.den : Int)) ∧ w'.cell? ⟨w.heap.size + 1, 0, none⟩ = some (.int .i64 y.num) ∧ w'.cell? ⟨w.heap.size + 1, 1, none⟩ = some (.int .i64 (y.den : Int))) (simp [go_sem, *])
    (first
      | (go_at_call 31; (with_reducible refine (HO1.out _).mono ?_); rintro e w3 ⟨A, n, c, B, m, d, rfl, hD1, hE1, hB3⟩; (have R3 : Below w2.heap.size w2 w3 := by first | exact hB3 | exact below_undrew' hB3); have C3 := (bcell R3).1)
      | (go_at_call 31; (with_reducible refine (HO2.out _).mono ?_); rintro e w4 ⟨A', n', c', B', m', d', rfl, hD2, hE2, hB4⟩; (have S4 : Below w3.heap.size w3 w4 := by first | exact hB4 | exact below_undrew' hB4); have R4 := stepB R3 S4; have C4 := (bcell R4).1; have hD1' := hD1.keep S4; have hE1' := hE1.keep S4)
      | (go_at_call 32; (with_reducible refine (HF.out _ A n c B m d A' n' c' B' m' d' (by first | exact hD1' | exact D.drew hD1') (by first | exact hE1' | exact D.drew hE1') (by first | exact hD2 | exact D.drew hD2) (by first | exact hE2 | exact D.drew hE2)).mono ?_); rintro e w5 ⟨A1, n1, c1, B1, m1, d1, rfl, hD3, hE3, hB5⟩; (have S5 : Below w4.heap.size w4 w5 := by first | exact hB5 | exact below_undrew' hB5); have R5 := stepB R4 S5; have C5 := (bcell R5).1)
      | (go_at_call 22; (with_reducible refine (HN.out _ A1 n1 c1 B1 m1 d1 (by first | exact hD3 | exact D.drew hD3) (by first | exact hE3 | exact D.drew hE3)).mono ?_); rintro e w6 ⟨rfl, hB6⟩; (have S6 : Below w5.heap.size w5 w6 := by first | exact hB6 | exact below_undrew' hB6); have R6 := stepB R5 S6; have C6 := (bcell R6).1; obtain ⟨⟨p1, p2, p3, p4⟩, p5, p6, p7⟩ := hW2.keep R6))
  all_goals go_wp2_with fail
  exact bodyPost_ret (v := .tuple #[.agg #[.int .i64 u1, .int .i64 u2], .int .i64 q]) (by simp [results, Tryz.results28, go_sem, *]) rfl ⟨rfl, ((hw2.trans (R6.mono hw2.size)).setCell (by show w.heap.size ≤ w.heap.size + 2; omega) _).setCell (by show w.heap.size ≤ w.heap.size + 2; omega) _⟩

end Go.Proofs.YtfhmhkbjcccejaaGreatDoor
