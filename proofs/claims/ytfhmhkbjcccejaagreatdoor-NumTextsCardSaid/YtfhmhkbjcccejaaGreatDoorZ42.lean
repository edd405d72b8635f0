/- The walks of num.Parse. -/
import Derived.Test.YtfhmhkbjcccejaaGreatDoorZ34
import Derived.Test.YtfhmhkbjcccejaaGreatDoorZ11
import Derived.Test.YtfhmhkbjcccejaaGreatDoorZ41

namespace Go.Proofs.YtfhmhkbjcccejaaGreatDoor
open Go.RowKit

/-- A call that only adds to memory. -/
def CB (f : Nat) (a : Array Value) (v : Value) (w : World) : Prop := ∀ wx, Below w.heap.size w wx → Calls Tryz.prog f a wx fun e w' => e = .returned v ∧ Below wx.heap.size wx w'
theorem CB.run {f : Nat} {a : Array Value} {v : Value} {w wx : World} (h : CB f a v w) (hb : Below w.heap.size w wx) : Calls Tryz.prog f a wx fun e w' => e = .returned v ∧ Below wx.heap.size wx w' := h wx hb

set_option maxRecDepth 100000 in
set_option maxHeartbeats 8000000 in
theorem parse_form1_1 (s B T O : ByteArray) (m : Bool) (w : World)
    (HP : Hid (CB 15 #[.string s, .string ⟨#[45]⟩] (.tuple #[.string B, .bool m]) w))
    (HC : Hid (CB 16 #[.string B, .string ⟨#[47]⟩] (.tuple #[.string T, .string O, .bool true]) w))
    (HI1 : Hid (CB 17 #[.string T] (.bool false) w)) :
    Calls Tryz.prog 7 #[.string s] w (Rt 0 0 4 w) := by
  go_enter Tryz.func7, Tryz.ntmps7
  go_upto_region 1 with fail
  generalize hX : w.alloc _ = X
  have hwX : Below w.heap.size w X := by rw [← hX]; exact below_alloc _ _
  have hWX : Wr w.heap.size 23 X := by rw [← hX]; exact Wr.new _ _ _ 23 rfl
  clear hX
  have W0 := Lib.hid hWX
  have B0 := Lib.hid hwX
  clear hWX hwX
  go_wp2_with fail
  (with_reducible refine (CB.run HP.out B0.out).mono ?_)
  rintro e w1 ⟨rfl, hB1⟩
  have W1 := Lib.hid (W0.out.keep hB1)
  have B1 := Lib.hid (B0.out.trans (hB1.mono B0.out.size))
  clear hB1 HP
  go_wp2_with fail
  (with_reducible refine (CB.run HC.out B1.out).mono ?_)
  rintro e w2 ⟨rfl, hB2⟩
  have W2 := Lib.hid (W1.out.keep hB2)
  have B2 := Lib.hid (B1.out.trans (hB2.mono B1.out.size))
  clear hB2 HC
  go_wp2_with fail
  (with_reducible refine (CB.run HI1.out B2.out).mono ?_)
  rintro e w3 ⟨rfl, hB3⟩
  have W3 := Lib.hid (W2.out.keep hB3)
  have B3 := Lib.hid (B2.out.trans (hB3.mono B2.out.size))
  clear hB3 HI1
  obtain ⟨⟨p1, p2, p3, p4⟩, p5, p6, p7⟩ := W3.out
  go_wp2_with fail
  exact bodyPost_ret (v := .tuple #[.agg #[.int .i64 0, .int .i64 0], .int .i64 4]) (by simp [results, Tryz.results7, go_sem, *]) rfl ⟨rfl, (B3.out.setCell (Nat.le_refl _) _).setCell (Nat.le_refl _) _⟩

set_option maxRecDepth 100000 in
set_option maxHeartbeats 8000000 in
theorem parse_form2_1 (s B T O : ByteArray) (m : Bool) (w : World)
    (HP : Hid (CB 15 #[.string s, .string ⟨#[45]⟩] (.tuple #[.string B, .bool m]) w))
    (HC : Hid (CB 16 #[.string B, .string ⟨#[47]⟩] (.tuple #[.string T, .string O, .bool true]) w))
    (HI1 : Hid (CB 17 #[.string T] (.bool true) w))
    (HI2 : Hid (CB 17 #[.string O] (.bool false) w)) :
    Calls Tryz.prog 7 #[.string s] w (Rt 0 0 4 w) := by
  go_enter Tryz.func7, Tryz.ntmps7
  go_upto_region 1 with fail
  generalize hX : w.alloc _ = X
  have hwX : Below w.heap.size w X := by rw [← hX]; exact below_alloc _ _
  have hWX : Wr w.heap.size 23 X := by rw [← hX]; exact Wr.new _ _ _ 23 rfl
  clear hX
  have W0 := Lib.hid hWX
  have B0 := Lib.hid hwX
  clear hWX hwX
  go_wp2_with fail
  (with_reducible refine (CB.run HP.out B0.out).mono ?_)
  rintro e w1 ⟨rfl, hB1⟩
  have W1 := Lib.hid (W0.out.keep hB1)
  have B1 := Lib.hid (B0.out.trans (hB1.mono B0.out.size))
  clear hB1 HP
  go_wp2_with fail
  (with_reducible refine (CB.run HC.out B1.out).mono ?_)
  rintro e w2 ⟨rfl, hB2⟩
  have W2 := Lib.hid (W1.out.keep hB2)
  have B2 := Lib.hid (B1.out.trans (hB2.mono B1.out.size))
  clear hB2 HC
  go_wp2_with fail
  (with_reducible refine (CB.run HI1.out B2.out).mono ?_)
  rintro e w3 ⟨rfl, hB3⟩
  have W3 := Lib.hid (W2.out.keep hB3)
  have B3 := Lib.hid (B2.out.trans (hB3.mono B2.out.size))
  clear hB3 HI1
  go_wp2_with fail
  (with_reducible refine (CB.run HI2.out B3.out).mono ?_)
  rintro e w4 ⟨rfl, hB4⟩
  have W4 := Lib.hid (W3.out.keep hB4)
  have B4 := Lib.hid (B3.out.trans (hB4.mono B3.out.size))
  clear hB4 HI2
  obtain ⟨⟨p1, p2, p3, p4⟩, p5, p6, p7⟩ := W4.out
  go_wp2_with fail
  exact bodyPost_ret (v := .tuple #[.agg #[.int .i64 0, .int .i64 0], .int .i64 4]) (by simp [results, Tryz.results7, go_sem, *]) rfl ⟨rfl, (B4.out.setCell (Nat.le_refl _) _).setCell (Nat.le_refl _) _⟩

set_option maxRecDepth 100000 in
set_option maxHeartbeats 8000000 in
theorem parse_form3_1 (s B T O : ByteArray) (m : Bool) (Z : ByteArray) (w : World)
    (HP : Hid (CB 15 #[.string s, .string ⟨#[45]⟩] (.tuple #[.string B, .bool m]) w))
    (HC : Hid (CB 16 #[.string B, .string ⟨#[47]⟩] (.tuple #[.string T, .string O, .bool true]) w))
    (HI1 : Hid (CB 17 #[.string T] (.bool true) w))
    (HI2 : Hid (CB 17 #[.string O] (.bool true) w))
    (HT : Hid (CB 18 #[.string O, .string ⟨#[48]⟩] (.string Z) w)) (hz : (Z.toList.isEmpty) = true) :
    Calls Tryz.prog 7 #[.string s] w (Rt 0 0 4 w) := by
  go_enter Tryz.func7, Tryz.ntmps7
  go_upto_region 1 with fail
  generalize hX : w.alloc _ = X
  have hwX : Below w.heap.size w X := by rw [← hX]; exact below_alloc _ _
  have hWX : Wr w.heap.size 23 X := by rw [← hX]; exact Wr.new _ _ _ 23 rfl
  clear hX
  have W0 := Lib.hid hWX
  have B0 := Lib.hid hwX
  clear hWX hwX
  go_wp2_with fail
  (with_reducible refine (CB.run HP.out B0.out).mono ?_)
  rintro e w1 ⟨rfl, hB1⟩
  have W1 := Lib.hid (W0.out.keep hB1)
  have B1 := Lib.hid (B0.out.trans (hB1.mono B0.out.size))
  clear hB1 HP
  go_wp2_with fail
  (with_reducible refine (CB.run HC.out B1.out).mono ?_)
  rintro e w2 ⟨rfl, hB2⟩
  have W2 := Lib.hid (W1.out.keep hB2)
  have B2 := Lib.hid (B1.out.trans (hB2.mono B1.out.size))
  clear hB2 HC
  go_wp2_with fail
  (with_reducible refine (CB.run HI1.out B2.out).mono ?_)
  rintro e w3 ⟨rfl, hB3⟩
  have W3 := Lib.hid (W2.out.keep hB3)
  have B3 := Lib.hid (B2.out.trans (hB3.mono B2.out.size))
  clear hB3 HI1
  go_wp2_with fail
  (with_reducible refine (CB.run HI2.out B3.out).mono ?_)
  rintro e w4 ⟨rfl, hB4⟩
  have W4 := Lib.hid (W3.out.keep hB4)
  have B4 := Lib.hid (B3.out.trans (hB4.mono B3.out.size))
  clear hB4 HI2
  go_wp2_with fail
  (with_reducible refine (CB.run HT.out B4.out).mono ?_)
  rintro e w5 ⟨rfl, hB5⟩
  have W5 := Lib.hid (W4.out.keep hB5)
  have B5 := Lib.hid (B4.out.trans (hB5.mono B4.out.size))
  clear hB5 HT
  obtain ⟨⟨p1, p2, p3, p4⟩, p5, p6, p7⟩ := W5.out
  go_wp2_with fail
  exact bodyPost_ret (v := .tuple #[.agg #[.int .i64 0, .int .i64 0], .int .i64 4]) (by simp [results, Tryz.results7, go_sem, *]) rfl ⟨rfl, (B5.out.setCell (Nat.le_refl _) _).setCell (Nat.le_refl _) _⟩

set_option maxRecDepth 100000 in
set_option maxHeartbeats 8000000 in
theorem parse_long_1 (s B T O : ByteArray) (m : Bool) (Z : ByteArray) (w : World)
    (HP : Hid (CB 15 #[.string s, .string ⟨#[45]⟩] (.tuple #[.string B, .bool m]) w))
    (HC : Hid (CB 16 #[.string B, .string ⟨#[47]⟩] (.tuple #[.string T, .string O, .bool true]) w))
    (HI1 : Hid (CB 17 #[.string T] (.bool true) w))
    (HI2 : Hid (CB 17 #[.string O] (.bool true) w))
    (HT : Hid (CB 18 #[.string O, .string ⟨#[48]⟩] (.string Z) w)) (hz : (Z.toList.isEmpty) = false)
    (hl : decide ((200 : Int) < (s.size : Int)) = true) :
    Calls Tryz.prog 7 #[.string s] w (Rt 0 0 3 w) := by
  go_enter Tryz.func7, Tryz.ntmps7
  go_upto_region 1 with fail
  generalize hX : w.alloc _ = X
  have hwX : Below w.heap.size w X := by rw [← hX]; exact below_alloc _ _
  have hWX : Wr w.heap.size 23 X := by rw [← hX]; exact Wr.new _ _ _ 23 rfl
  clear hX
  have W0 := Lib.hid hWX
  have B0 := Lib.hid hwX
  clear hWX hwX
  go_wp2_with fail
  (with_reducible refine (CB.run HP.out B0.out).mono ?_)
  rintro e w1 ⟨rfl, hB1⟩
  have W1 := Lib.hid (W0.out.keep hB1)
  have B1 := Lib.hid (B0.out.trans (hB1.mono B0.out.size))
  clear hB1 HP
  go_wp2_with fail
  (with_reducible refine (CB.run HC.out B1.out).mono ?_)
  rintro e w2 ⟨rfl, hB2⟩
  have W2 := Lib.hid (W1.out.keep hB2)
  have B2 := Lib.hid (B1.out.trans (hB2.mono B1.out.size))
  clear hB2 HC
  go_wp2_with fail
  (with_reducible refine (CB.run HI1.out B2.out).mono ?_)
  rintro e w3 ⟨rfl, hB3⟩
  have W3 := Lib.hid (W2.out.keep hB3)
  have B3 := Lib.hid (B2.out.trans (hB3.mono B2.out.size))
  clear hB3 HI1
  go_wp2_with fail
  (with_reducible refine (CB.run HI2.out B3.out).mono ?_)
  rintro e w4 ⟨rfl, hB4⟩
  have W4 := Lib.hid (W3.out.keep hB4)
  have B4 := Lib.hid (B3.out.trans (hB4.mono B3.out.size))
  clear hB4 HI2
  go_wp2_with fail
  (with_reducible refine (CB.run HT.out B4.out).mono ?_)
  rintro e w5 ⟨rfl, hB5⟩
  have W5 := Lib.hid (W4.out.keep hB5)
  have B5 := Lib.hid (B4.out.trans (hB5.mono B4.out.size))
  clear hB5 HT
  obtain ⟨⟨p1, p2, p3, p4⟩, p5, p6, p7⟩ := W5.out
  go_wp2_with fail
  exact bodyPost_ret (v := .tuple #[.agg #[.int .i64 0, .int .i64 0], .int .i64 3]) (by simp [results, Tryz.results7, go_sem, *]) rfl ⟨rfl, (B5.out.setCell (Nat.le_refl _) _).setCell (Nat.le_refl _) _⟩

set_option maxRecDepth 100000 in
set_option maxHeartbeats 8000000 in
theorem parse_plain_1 (s B T O : ByteArray) (Z : ByteArray) (z z2 r1 r2 r3 : Int) (x : Rat) (w : World)
    (HP : Hid (CB 15 #[.string s, .string ⟨#[45]⟩] (.tuple #[.string B, .bool false]) w))
    (HC : Hid (CB 16 #[.string B, .string ⟨#[47]⟩] (.tuple #[.string T, .string O, .bool true]) w))
    (HI1 : Hid (CB 17 #[.string T] (.bool true) w))
    (HI2 : Hid (CB 17 #[.string O] (.bool true) w))
    (HT : Hid (CB 18 #[.string O, .string ⟨#[48]⟩] (.string Z) w)) (hz : (Z.toList.isEmpty) = false)
    (hl : decide ((200 : Int) < (s.size : Int)) = false)
    (HD1 : Hid (∀ wx, Calls Tryz.prog 20 #[.string T] wx (RetW (.pint z) wx))) (HD2 : Hid (∀ wx, Calls Tryz.prog 20 #[.string O] wx (RetW (.pint z2) wx))) (HR : Hid (∀ wx u u2, PV wx u z → PV wx u2 z2 → Calls Tryz.prog 19 #[u, u2] wx (RetW (.prat x) wx)))
    (HQ : Hid (∀ wx u, QV wx u x → Calls Tryz.prog 22 #[u] wx (Rt r1 r2 r3 wx))) :
    Calls Tryz.prog 7 #[.string s] w (Rt r1 r2 r3 w) := by
  go_enter Tryz.func7, Tryz.ntmps7
  go_upto_region 1 with fail
  generalize hX : w.alloc _ = X
  have hwX : Below w.heap.size w X := by rw [← hX]; exact below_alloc _ _
  have hWX : Wr w.heap.size 23 X := by rw [← hX]; exact Wr.new _ _ _ 23 rfl
  clear hX
  have W0 := Lib.hid hWX
  have B0 := Lib.hid hwX
  clear hWX hwX
  go_wp2_with fail
  (with_reducible refine (CB.run HP.out B0.out).mono ?_)
  rintro e w1 ⟨rfl, hB1⟩
  have W1 := Lib.hid (W0.out.keep hB1)
  have B1 := Lib.hid (B0.out.trans (hB1.mono B0.out.size))
  clear hB1 HP
  go_wp2_with fail
  (with_reducible refine (CB.run HC.out B1.out).mono ?_)
  rintro e w2 ⟨rfl, hB2⟩
  have W2 := Lib.hid (W1.out.keep hB2)
  have B2 := Lib.hid (B1.out.trans (hB2.mono B1.out.size))
  clear hB2 HC
  go_wp2_with fail
  (with_reducible refine (CB.run HI1.out B2.out).mono ?_)
  rintro e w3 ⟨rfl, hB3⟩
  have W3 := Lib.hid (W2.out.keep hB3)
  have B3 := Lib.hid (B2.out.trans (hB3.mono B2.out.size))
  clear hB3 HI1
  go_wp2_with fail
  (with_reducible refine (CB.run HI2.out B3.out).mono ?_)
  rintro e w4 ⟨rfl, hB4⟩
  have W4 := Lib.hid (W3.out.keep hB4)
  have B4 := Lib.hid (B3.out.trans (hB4.mono B3.out.size))
  clear hB4 HI2
  go_wp2_with fail
  (with_reducible refine (CB.run HT.out B4.out).mono ?_)
  rintro e w5 ⟨rfl, hB5⟩
  have W5 := Lib.hid (W4.out.keep hB5)
  have B5 := Lib.hid (B4.out.trans (hB5.mono B4.out.size))
  clear hB5 HT
  go_wp2_with fail
  (with_reducible refine (HD1.out w5).mono ?_)
  rintro e w6 ⟨u1, rfl, hu1, hB6⟩
  have U1 := Lib.hid hu1
  have W6 := Lib.hid (W5.out.keep hB6)
  have B6 := Lib.hid (B5.out.trans (hB6.mono B5.out.size))
  clear hB6 HD1 hu1
  go_wp2_with fail
  (with_reducible refine (HD2.out w6).mono ?_)
  rintro e w7 ⟨u2, rfl, hu2, hB7⟩
  have HRR := Lib.hid (HR.out w7 u1 u2 (PV.keep U1.out hB7) hu2)
  have W7 := Lib.hid (W6.out.keep hB7)
  have B7 := Lib.hid (B6.out.trans (hB7.mono B6.out.size))
  clear hB7 HD2 hu2 HR
  go_wp2_with fail
  (with_reducible refine HRR.out.mono ?_)
  rintro e w8 ⟨u3, rfl, hu3, hB8⟩
  have W8 := Lib.hid (W7.out.keep hB8)
  have B8 := Lib.hid (B7.out.trans (hB8.mono B7.out.size))
  have U3 := Lib.hid hu3
  obtain ⟨b3, A3, n3, c3, A4, n4, c4, rfl, -⟩ := hu3
  clear hB8 HRR U1
  go_upto_region 10 with fail
  generalize hY : w8.alloc _ = Y
  have hBY : Below w8.heap.size w8 Y := by rw [← hY]; exact below_alloc _ _
  have g4 : Wr4 w8.heap.size 47 Y := by rw [← hY]; exact Wr4.new _ _ _ _ _ 47 rfl
  obtain ⟨k0, k1, k2, k3⟩ : Y.cell? ⟨w8.heap.size, 0, none⟩ = some (.bool b3) ∧ Y.cell? ⟨w8.heap.size, 1, none⟩ = some (.slice A3 n3 c3) ∧ Y.cell? ⟨w8.heap.size, 2, none⟩ = some (.bool false) ∧ Y.cell? ⟨w8.heap.size, 3, none⟩ = some (.slice A4 n4 c4) := by
    subst hY
    simp [go_sem]
  have UY := Lib.hid (QV.keep U3.out hBY)
  have WY := Lib.hid (W8.out.keep hBY)
  have BY := Lib.hid (B8.out.trans (hBY.mono B8.out.size))
  have GY := Lib.hid g4
  have hgl : w.heap.size < w8.heap.size := W8.out.2.2.2.lt
  generalize w8.heap.size = g at *
  clear hY hBY U3 g4
  go_wp2_with fail
  (with_reducible refine (HQ.out Y _ UY.out).mono ?_)
  rintro e wz ⟨rfl, hBz⟩
  have BZ := BY.out.trans (hBz.mono BY.out.size)
  obtain ⟨⟨p1, p2, p3, p4⟩, p5, p6, p7⟩ := WY.out.keep hBz
  clear k0 k1 k2 k3
  go_wp2_with fail
  exact bodyPost_ret (v := .tuple #[.agg #[.int .i64 r1, .int .i64 r2], .int .i64 r3]) (by simp [results, Tryz.results7, go_sem, *]) rfl ⟨rfl, (BZ.setCell (Nat.le_refl _) _).setCell (Nat.le_refl _) _⟩

set_option maxRecDepth 100000 in
set_option maxHeartbeats 8000000 in
theorem parse_minus_1 (s B T O : ByteArray) (Z : ByteArray) (z z2 r1 r2 r3 : Int) (x : Rat) (y : Rat) (w : World)
    (HP : Hid (CB 15 #[.string s, .string ⟨#[45]⟩] (.tuple #[.string B, .bool true]) w))
    (HC : Hid (CB 16 #[.string B, .string ⟨#[47]⟩] (.tuple #[.string T, .string O, .bool true]) w))
    (HI1 : Hid (CB 17 #[.string T] (.bool true) w))
    (HI2 : Hid (CB 17 #[.string O] (.bool true) w))
    (HT : Hid (CB 18 #[.string O, .string ⟨#[48]⟩] (.string Z) w)) (hz : (Z.toList.isEmpty) = false)
    (hl : decide ((200 : Int) < (s.size : Int)) = false)
    (HD1 : Hid (∀ wx, Calls Tryz.prog 20 #[.string T] wx (RetW (.pint z) wx))) (HD2 : Hid (∀ wx, Calls Tryz.prog 20 #[.string O] wx (RetW (.pint z2) wx))) (HR : Hid (∀ wx u u2, PV wx u z → PV wx u2 z2 → Calls Tryz.prog 19 #[u, u2] wx (RetW (.prat x) wx)))
    (HN : Hid (∀ wx u, QV wx u x → Calls Tryz.prog 21 #[u] wx (RetW (.prat y) wx)))
    (HQ : Hid (∀ wx u, QV wx u y → Calls Tryz.prog 22 #[u] wx (Rt r1 r2 r3 wx))) :
    Calls Tryz.prog 7 #[.string s] w (Rt r1 r2 r3 w) := by
  go_enter Tryz.func7, Tryz.ntmps7
  go_upto_region 1 with fail
  generalize hX : w.alloc _ = X
  have hwX : Below w.heap.size w X := by rw [← hX]; exact below_alloc _ _
  have hWX : Wr w.heap.size 23 X := by rw [← hX]; exact Wr.new _ _ _ 23 rfl
  clear hX
  have W0 := Lib.hid hWX
  have B0 := Lib.hid hwX
  clear hWX hwX
  go_wp2_with fail
  (with_reducible refine (CB.run HP.out B0.out).mono ?_)
  rintro e w1 ⟨rfl, hB1⟩
  have W1 := Lib.hid (W0.out.keep hB1)
  have B1 := Lib.hid (B0.out.trans (hB1.mono B0.out.size))
  clear hB1 HP
  go_wp2_with fail
  (with_reducible refine (CB.run HC.out B1.out).mono ?_)
  rintro e w2 ⟨rfl, hB2⟩
  have W2 := Lib.hid (W1.out.keep hB2)
  have B2 := Lib.hid (B1.out.trans (hB2.mono B1.out.size))
  clear hB2 HC
  go_wp2_with fail
  (with_reducible refine (CB.run HI1.out B2.out).mono ?_)
  rintro e w3 ⟨rfl, hB3⟩
  have W3 := Lib.hid (W2.out.keep hB3)
  have B3 := Lib.hid (B2.out.trans (hB3.mono B2.out.size))
  clear hB3 HI1
  go_wp2_with fail
  (with_reducible refine (CB.run HI2.out B3.out).mono ?_)
  rintro e w4 ⟨rfl, hB4⟩
  have W4 := Lib.hid (W3.out.keep hB4)
  have B4 := Lib.hid (B3.out.trans (hB4.mono B3.out.size))
  clear hB4 HI2
  go_wp2_with fail
  (with_reducible refine (CB.run HT.out B4.out).mono ?_)
  rintro e w5 ⟨rfl, hB5⟩
  have W5 := Lib.hid (W4.out.keep hB5)
  have B5 := Lib.hid (B4.out.trans (hB5.mono B4.out.size))
  clear hB5 HT
  go_wp2_with fail
  (with_reducible refine (HD1.out w5).mono ?_)
  rintro e w6 ⟨u1, rfl, hu1, hB6⟩
  have U1 := Lib.hid hu1
  have W6 := Lib.hid (W5.out.keep hB6)
  have B6 := Lib.hid (B5.out.trans (hB6.mono B5.out.size))
  clear hB6 HD1 hu1
  go_wp2_with fail
  (with_reducible refine (HD2.out w6).mono ?_)
  rintro e w7 ⟨u2, rfl, hu2, hB7⟩
  have HRR := Lib.hid (HR.out w7 u1 u2 (PV.keep U1.out hB7) hu2)
  have W7 := Lib.hid (W6.out.keep hB7)
  have B7 := Lib.hid (B6.out.trans (hB7.mono B6.out.size))
  clear hB7 HD2 hu2 HR
  go_wp2_with fail
  (with_reducible refine HRR.out.mono ?_)
  rintro e w8 ⟨u3, rfl, hu3, hB8⟩
  have W8 := Lib.hid (W7.out.keep hB8)
  have B8 := Lib.hid (B7.out.trans (hB8.mono B7.out.size))
  have U3 := Lib.hid hu3
  obtain ⟨b3, A3, n3, c3, A4, n4, c4, rfl, -⟩ := hu3
  clear hB8 HRR U1
  go_upto_region 10 with fail
  generalize hY : w8.alloc _ = Y
  have hBY : Below w8.heap.size w8 Y := by rw [← hY]; exact below_alloc _ _
  have g4 : Wr4 w8.heap.size 47 Y := by rw [← hY]; exact Wr4.new _ _ _ _ _ 47 rfl
  obtain ⟨k0, k1, k2, k3⟩ : Y.cell? ⟨w8.heap.size, 0, none⟩ = some (.bool b3) ∧ Y.cell? ⟨w8.heap.size, 1, none⟩ = some (.slice A3 n3 c3) ∧ Y.cell? ⟨w8.heap.size, 2, none⟩ = some (.bool false) ∧ Y.cell? ⟨w8.heap.size, 3, none⟩ = some (.slice A4 n4 c4) := by
    subst hY
    simp [go_sem]
  have UY := Lib.hid (QV.keep U3.out hBY)
  have WY := Lib.hid (W8.out.keep hBY)
  have BY := Lib.hid (B8.out.trans (hBY.mono B8.out.size))
  have GY := Lib.hid g4
  have hgl : w.heap.size < w8.heap.size := W8.out.2.2.2.lt
  generalize w8.heap.size = g at *
  clear hY hBY U3 g4
  go_wp2_with fail
  (with_reducible refine (HN.out Y _ UY.out).mono ?_)
  rintro e wn ⟨u4, rfl, hu4, hBn⟩
  have WN := WY.out.keep hBn
  have BN := BY.out.trans (hBn.mono BY.out.size)
  have GN := GY.out.keep hBn
  obtain ⟨b5, A5, n5, c5, A6, n6, c6, rfl, hq5⟩ := hu4
  have HE : Hid (EndQ w g y ((((wn.setCell ⟨g, 0, none⟩ (.bool b5)).setCell ⟨g, 1, none⟩ (.slice A5 n5 c5)).setCell ⟨g, 2, none⟩ (.bool false)).setCell ⟨g, 3, none⟩ (.slice A6 n6 c6)) ∧
      Wr w.heap.size 23 ((((wn.setCell ⟨g, 0, none⟩ (.bool b5)).setCell ⟨g, 1, none⟩ (.slice A5 n5 c5)).setCell ⟨g, 2, none⟩ (.bool false)).setCell ⟨g, 3, none⟩ (.slice A6 n6 c6))) :=
    ⟨endQ_store BN (Nat.le_of_lt hgl) GN hq5, (((WN.far (Nat.ne_of_lt hgl) _ _).far (Nat.ne_of_lt hgl) _ _).far (Nat.ne_of_lt hgl) _ _).far (Nat.ne_of_lt hgl) _ _⟩
  obtain ⟨⟨o0, o1, o2, o3, q0, q1, q2, q3⟩, f0, f1, f2, f3, -⟩ := GN
  clear k0 k1 k2 k3 hBn WN BN hq5 UY GY HN
  go_upto_region 12 with fail
  generalize (World.setCell (World.setCell (World.setCell (World.setCell wn _ _) _ _) _ _) _ _) = E at HE ⊢
  clear q0 q1 q2 q3 f0 f1 f2 f3
  obtain ⟨⟨b7, A7, n7, c7, A8, n8, c8, ⟨l0, l1, l2, l3⟩, hq7, hBE⟩, hWE⟩ := HE.out
  have HQE := Lib.hid (HQ.out E _ ⟨b7, A7, n7, c7, A8, n8, c8, rfl, hq7⟩)
  have BE := Lib.hid hBE
  have WE := Lib.hid hWE
  clear hq7 hBE hWE HE
  go_wp2_with fail
  (with_reducible refine HQE.out.mono ?_)
  rintro e wz ⟨rfl, hBz⟩
  have BZ := BE.out.trans (hBz.mono BE.out.size)
  obtain ⟨⟨p1, p2, p3, p4⟩, p5, p6, p7⟩ := WE.out.keep hBz
  clear l0 l1 l2 l3
  go_wp2_with fail
  exact bodyPost_ret (v := .tuple #[.agg #[.int .i64 r1, .int .i64 r2], .int .i64 r3]) (by simp [results, Tryz.results7, go_sem, *]) rfl ⟨rfl, (BZ.setCell (Nat.le_refl _) _).setCell (Nat.le_refl _) _⟩

set_option maxRecDepth 100000 in
set_option maxHeartbeats 8000000 in
theorem parse_form1_0 (s B T O : ByteArray) (m : Bool) (w : World)
    (HP : Hid (CB 15 #[.string s, .string ⟨#[45]⟩] (.tuple #[.string B, .bool m]) w))
    (HC : Hid (CB 16 #[.string B, .string ⟨#[47]⟩] (.tuple #[.string T, .string O, .bool false]) w))
    (HI1 : Hid (CB 17 #[.string T] (.bool false) w)) :
    Calls Tryz.prog 7 #[.string s] w (Rt 0 0 4 w) := by
  go_enter Tryz.func7, Tryz.ntmps7
  go_upto_region 1 with fail
  generalize hX : w.alloc _ = X
  have hwX : Below w.heap.size w X := by rw [← hX]; exact below_alloc _ _
  have hWX : Wr w.heap.size 23 X := by rw [← hX]; exact Wr.new _ _ _ 23 rfl
  clear hX
  have W0 := Lib.hid hWX
  have B0 := Lib.hid hwX
  clear hWX hwX
  go_wp2_with fail
  (with_reducible refine (CB.run HP.out B0.out).mono ?_)
  rintro e w1 ⟨rfl, hB1⟩
  have W1 := Lib.hid (W0.out.keep hB1)
  have B1 := Lib.hid (B0.out.trans (hB1.mono B0.out.size))
  clear hB1 HP
  go_wp2_with fail
  (with_reducible refine (CB.run HC.out B1.out).mono ?_)
  rintro e w2 ⟨rfl, hB2⟩
  have W2 := Lib.hid (W1.out.keep hB2)
  have B2 := Lib.hid (B1.out.trans (hB2.mono B1.out.size))
  clear hB2 HC
  go_wp2_with fail
  (with_reducible refine (CB.run HI1.out B2.out).mono ?_)
  rintro e w3 ⟨rfl, hB3⟩
  have W3 := Lib.hid (W2.out.keep hB3)
  have B3 := Lib.hid (B2.out.trans (hB3.mono B2.out.size))
  clear hB3 HI1
  obtain ⟨⟨p1, p2, p3, p4⟩, p5, p6, p7⟩ := W3.out
  go_wp2_with fail
  exact bodyPost_ret (v := .tuple #[.agg #[.int .i64 0, .int .i64 0], .int .i64 4]) (by simp [results, Tryz.results7, go_sem, *]) rfl ⟨rfl, (B3.out.setCell (Nat.le_refl _) _).setCell (Nat.le_refl _) _⟩

set_option maxRecDepth 100000 in
set_option maxHeartbeats 8000000 in
theorem parse_long_0 (s B T O : ByteArray) (m : Bool) (Z : ByteArray) (w : World)
    (HP : Hid (CB 15 #[.string s, .string ⟨#[45]⟩] (.tuple #[.string B, .bool m]) w))
    (HC : Hid (CB 16 #[.string B, .string ⟨#[47]⟩] (.tuple #[.string T, .string O, .bool false]) w))
    (HI1 : Hid (CB 17 #[.string T] (.bool true) w))
    (HI2 : Hid (CB 17 #[.string ⟨#[49]⟩] (.bool true) w))
    (HT : Hid (CB 18 #[.string ⟨#[49]⟩, .string ⟨#[48]⟩] (.string Z) w)) (hz : (Z.toList.isEmpty) = false)
    (hl : decide ((200 : Int) < (s.size : Int)) = true) :
    Calls Tryz.prog 7 #[.string s] w (Rt 0 0 3 w) := by
  go_enter Tryz.func7, Tryz.ntmps7
  go_upto_region 1 with fail
  generalize hX : w.alloc _ = X
  have hwX : Below w.heap.size w X := by rw [← hX]; exact below_alloc _ _
  have hWX : Wr w.heap.size 23 X := by rw [← hX]; exact Wr.new _ _ _ 23 rfl
  clear hX
  have W0 := Lib.hid hWX
  have B0 := Lib.hid hwX
  clear hWX hwX
  go_wp2_with fail
  (with_reducible refine (CB.run HP.out B0.out).mono ?_)
  rintro e w1 ⟨rfl, hB1⟩
  have W1 := Lib.hid (W0.out.keep hB1)
  have B1 := Lib.hid (B0.out.trans (hB1.mono B0.out.size))
  clear hB1 HP
  go_wp2_with fail
  (with_reducible refine (CB.run HC.out B1.out).mono ?_)
  rintro e w2 ⟨rfl, hB2⟩
  have W2 := Lib.hid (W1.out.keep hB2)
  have B2 := Lib.hid (B1.out.trans (hB2.mono B1.out.size))
  clear hB2 HC
  go_wp2_with fail
  (with_reducible refine (CB.run HI1.out B2.out).mono ?_)
  rintro e w3 ⟨rfl, hB3⟩
  have W3 := Lib.hid (W2.out.keep hB3)
  have B3 := Lib.hid (B2.out.trans (hB3.mono B2.out.size))
  clear hB3 HI1
  go_wp2_with fail
  (with_reducible refine (CB.run HI2.out B3.out).mono ?_)
  rintro e w4 ⟨rfl, hB4⟩
  have W4 := Lib.hid (W3.out.keep hB4)
  have B4 := Lib.hid (B3.out.trans (hB4.mono B3.out.size))
  clear hB4 HI2
  go_wp2_with fail
  (with_reducible refine (CB.run HT.out B4.out).mono ?_)
  rintro e w5 ⟨rfl, hB5⟩
  have W5 := Lib.hid (W4.out.keep hB5)
  have B5 := Lib.hid (B4.out.trans (hB5.mono B4.out.size))
  clear hB5 HT
  obtain ⟨⟨p1, p2, p3, p4⟩, p5, p6, p7⟩ := W5.out
  go_wp2_with fail
  exact bodyPost_ret (v := .tuple #[.agg #[.int .i64 0, .int .i64 0], .int .i64 3]) (by simp [results, Tryz.results7, go_sem, *]) rfl ⟨rfl, (B5.out.setCell (Nat.le_refl _) _).setCell (Nat.le_refl _) _⟩

set_option maxRecDepth 100000 in
set_option maxHeartbeats 8000000 in
theorem parse_plain_0 (s B T O : ByteArray) (Z : ByteArray) (z z2 r1 r2 r3 : Int) (x : Rat) (w : World)
    (HP : Hid (CB 15 #[.string s, .string ⟨#[45]⟩] (.tuple #[.string B, .bool false]) w))
    (HC : Hid (CB 16 #[.string B, .string ⟨#[47]⟩] (.tuple #[.string T, .string O, .bool false]) w))
    (HI1 : Hid (CB 17 #[.string T] (.bool true) w))
    (HI2 : Hid (CB 17 #[.string ⟨#[49]⟩] (.bool true) w))
    (HT : Hid (CB 18 #[.string ⟨#[49]⟩, .string ⟨#[48]⟩] (.string Z) w)) (hz : (Z.toList.isEmpty) = false)
    (hl : decide ((200 : Int) < (s.size : Int)) = false)
    (HD1 : Hid (∀ wx, Calls Tryz.prog 20 #[.string T] wx (RetW (.pint z) wx))) (HD2 : Hid (∀ wx, Calls Tryz.prog 20 #[.string ⟨#[49]⟩] wx (RetW (.pint z2) wx))) (HR : Hid (∀ wx u u2, PV wx u z → PV wx u2 z2 → Calls Tryz.prog 19 #[u, u2] wx (RetW (.prat x) wx)))
    (HQ : Hid (∀ wx u, QV wx u x → Calls Tryz.prog 22 #[u] wx (Rt r1 r2 r3 wx))) :
    Calls Tryz.prog 7 #[.string s] w (Rt r1 r2 r3 w) := by
  go_enter Tryz.func7, Tryz.ntmps7
  go_upto_region 1 with fail
  generalize hX : w.alloc _ = X
  have hwX : Below w.heap.size w X := by rw [← hX]; exact below_alloc _ _
  have hWX : Wr w.heap.size 23 X := by rw [← hX]; exact Wr.new _ _ _ 23 rfl
  clear hX
  have W0 := Lib.hid hWX
  have B0 := Lib.hid hwX
  clear hWX hwX
  go_wp2_with fail
  (with_reducible refine (CB.run HP.out B0.out).mono ?_)
  rintro e w1 ⟨rfl, hB1⟩
  have W1 := Lib.hid (W0.out.keep hB1)
  have B1 := Lib.hid (B0.out.trans (hB1.mono B0.out.size))
  clear hB1 HP
  go_wp2_with fail
  (with_reducible refine (CB.run HC.out B1.out).mono ?_)
  rintro e w2 ⟨rfl, hB2⟩
  have W2 := Lib.hid (W1.out.keep hB2)
  have B2 := Lib.hid (B1.out.trans (hB2.mono B1.out.size))
  clear hB2 HC
  go_wp2_with fail
  (with_reducible refine (CB.run HI1.out B2.out).mono ?_)
  rintro e w3 ⟨rfl, hB3⟩
  have W3 := Lib.hid (W2.out.keep hB3)
  have B3 := Lib.hid (B2.out.trans (hB3.mono B2.out.size))
  clear hB3 HI1
  go_wp2_with fail
  (with_reducible refine (CB.run HI2.out B3.out).mono ?_)
  rintro e w4 ⟨rfl, hB4⟩
  have W4 := Lib.hid (W3.out.keep hB4)
  have B4 := Lib.hid (B3.out.trans (hB4.mono B3.out.size))
  clear hB4 HI2
  go_wp2_with fail
  (with_reducible refine (CB.run HT.out B4.out).mono ?_)
  rintro e w5 ⟨rfl, hB5⟩
  have W5 := Lib.hid (W4.out.keep hB5)
  have B5 := Lib.hid (B4.out.trans (hB5.mono B4.out.size))
  clear hB5 HT
  go_wp2_with fail
  (with_reducible refine (HD1.out w5).mono ?_)
  rintro e w6 ⟨u1, rfl, hu1, hB6⟩
  have U1 := Lib.hid hu1
  have W6 := Lib.hid (W5.out.keep hB6)
  have B6 := Lib.hid (B5.out.trans (hB6.mono B5.out.size))
  clear hB6 HD1 hu1
  go_wp2_with fail
  (with_reducible refine (HD2.out w6).mono ?_)
  rintro e w7 ⟨u2, rfl, hu2, hB7⟩
  have HRR := Lib.hid (HR.out w7 u1 u2 (PV.keep U1.out hB7) hu2)
  have W7 := Lib.hid (W6.out.keep hB7)
  have B7 := Lib.hid (B6.out.trans (hB7.mono B6.out.size))
  clear hB7 HD2 hu2 HR
  go_wp2_with fail
  (with_reducible refine HRR.out.mono ?_)
  rintro e w8 ⟨u3, rfl, hu3, hB8⟩
  have W8 := Lib.hid (W7.out.keep hB8)
  have B8 := Lib.hid (B7.out.trans (hB8.mono B7.out.size))
  have U3 := Lib.hid hu3
  obtain ⟨b3, A3, n3, c3, A4, n4, c4, rfl, -⟩ := hu3
  clear hB8 HRR U1
  go_upto_region 10 with fail
  generalize hY : w8.alloc _ = Y
  have hBY : Below w8.heap.size w8 Y := by rw [← hY]; exact below_alloc _ _
  have g4 : Wr4 w8.heap.size 47 Y := by rw [← hY]; exact Wr4.new _ _ _ _ _ 47 rfl
  obtain ⟨k0, k1, k2, k3⟩ : Y.cell? ⟨w8.heap.size, 0, none⟩ = some (.bool b3) ∧ Y.cell? ⟨w8.heap.size, 1, none⟩ = some (.slice A3 n3 c3) ∧ Y.cell? ⟨w8.heap.size, 2, none⟩ = some (.bool false) ∧ Y.cell? ⟨w8.heap.size, 3, none⟩ = some (.slice A4 n4 c4) := by
    subst hY
    simp [go_sem]
  have UY := Lib.hid (QV.keep U3.out hBY)
  have WY := Lib.hid (W8.out.keep hBY)
  have BY := Lib.hid (B8.out.trans (hBY.mono B8.out.size))
  have GY := Lib.hid g4
  have hgl : w.heap.size < w8.heap.size := W8.out.2.2.2.lt
  generalize w8.heap.size = g at *
  clear hY hBY U3 g4
  go_wp2_with fail
  (with_reducible refine (HQ.out Y _ UY.out).mono ?_)
  rintro e wz ⟨rfl, hBz⟩
  have BZ := BY.out.trans (hBz.mono BY.out.size)
  obtain ⟨⟨p1, p2, p3, p4⟩, p5, p6, p7⟩ := WY.out.keep hBz
  clear k0 k1 k2 k3
  go_wp2_with fail
  exact bodyPost_ret (v := .tuple #[.agg #[.int .i64 r1, .int .i64 r2], .int .i64 r3]) (by simp [results, Tryz.results7, go_sem, *]) rfl ⟨rfl, (BZ.setCell (Nat.le_refl _) _).setCell (Nat.le_refl _) _⟩

set_option maxRecDepth 100000 in
set_option maxHeartbeats 8000000 in
theorem parse_minus_0 (s B T O : ByteArray) (Z : ByteArray) (z z2 r1 r2 r3 : Int) (x : Rat) (y : Rat) (w : World)
    (HP : Hid (CB 15 #[.string s, .string ⟨#[45]⟩] (.tuple #[.string B, .bool true]) w))
    (HC : Hid (CB 16 #[.string B, .string ⟨#[47]⟩] (.tuple #[.string T, .string O, .bool false]) w))
    (HI1 : Hid (CB 17 #[.string T] (.bool true) w))
    (HI2 : Hid (CB 17 #[.string ⟨#[49]⟩] (.bool true) w))
    (HT : Hid (CB 18 #[.string ⟨#[49]⟩, .string ⟨#[48]⟩] (.string Z) w)) (hz : (Z.toList.isEmpty) = false)
    (hl : decide ((200 : Int) < (s.size : Int)) = false)
    (HD1 : Hid (∀ wx, Calls Tryz.prog 20 #[.string T] wx (RetW (.pint z) wx))) (HD2 : Hid (∀ wx, Calls Tryz.prog 20 #[.string ⟨#[49]⟩] wx (RetW (.pint z2) wx))) (HR : Hid (∀ wx u u2, PV wx u z → PV wx u2 z2 → Calls Tryz.prog 19 #[u, u2] wx (RetW (.prat x) wx)))
    (HN : Hid (∀ wx u, QV wx u x → Calls Tryz.prog 21 #[u] wx (RetW (.prat y) wx)))
    (HQ : Hid (∀ wx u, QV wx u y → Calls Tryz.prog 22 #[u] wx (Rt r1 r2 r3 wx))) :
    Calls Tryz.prog 7 #[.string s] w (Rt r1 r2 r3 w) := by
  go_enter Tryz.func7, Tryz.ntmps7
  go_upto_region 1 with fail
  generalize hX : w.alloc _ = X
  have hwX : Below w.heap.size w X := by rw [← hX]; exact below_alloc _ _
  have hWX : Wr w.heap.size 23 X := by rw [← hX]; exact Wr.new _ _ _ 23 rfl
  clear hX
  have W0 := Lib.hid hWX
  have B0 := Lib.hid hwX
  clear hWX hwX
  go_wp2_with fail
  (with_reducible refine (CB.run HP.out B0.out).mono ?_)
  rintro e w1 ⟨rfl, hB1⟩
  have W1 := Lib.hid (W0.out.keep hB1)
  have B1 := Lib.hid (B0.out.trans (hB1.mono B0.out.size))
  clear hB1 HP
  go_wp2_with fail
  (with_reducible refine (CB.run HC.out B1.out).mono ?_)
  rintro e w2 ⟨rfl, hB2⟩
  have W2 := Lib.hid (W1.out.keep hB2)
  have B2 := Lib.hid (B1.out.trans (hB2.mono B1.out.size))
  clear hB2 HC
  go_wp2_with fail
  (with_reducible refine (CB.run HI1.out B2.out).mono ?_)
  rintro e w3 ⟨rfl, hB3⟩
  have W3 := Lib.hid (W2.out.keep hB3)
  have B3 := Lib.hid (B2.out.trans (hB3.mono B2.out.size))
  clear hB3 HI1
  go_wp2_with fail
  (with_reducible refine (CB.run HI2.out B3.out).mono ?_)
  rintro e w4 ⟨rfl, hB4⟩
  have W4 := Lib.hid (W3.out.keep hB4)
  have B4 := Lib.hid (B3.out.trans (hB4.mono B3.out.size))
  clear hB4 HI2
  go_wp2_with fail
  (with_reducible refine (CB.run HT.out B4.out).mono ?_)
  rintro e w5 ⟨rfl, hB5⟩
  have W5 := Lib.hid (W4.out.keep hB5)
  have B5 := Lib.hid (B4.out.trans (hB5.mono B4.out.size))
  clear hB5 HT
  go_wp2_with fail
  (with_reducible refine (HD1.out w5).mono ?_)
  rintro e w6 ⟨u1, rfl, hu1, hB6⟩
  have U1 := Lib.hid hu1
  have W6 := Lib.hid (W5.out.keep hB6)
  have B6 := Lib.hid (B5.out.trans (hB6.mono B5.out.size))
  clear hB6 HD1 hu1
  go_wp2_with fail
  (with_reducible refine (HD2.out w6).mono ?_)
  rintro e w7 ⟨u2, rfl, hu2, hB7⟩
  have HRR := Lib.hid (HR.out w7 u1 u2 (PV.keep U1.out hB7) hu2)
  have W7 := Lib.hid (W6.out.keep hB7)
  have B7 := Lib.hid (B6.out.trans (hB7.mono B6.out.size))
  clear hB7 HD2 hu2 HR
  go_wp2_with fail
  (with_reducible refine HRR.out.mono ?_)
  rintro e w8 ⟨u3, rfl, hu3, hB8⟩
  have W8 := Lib.hid (W7.out.keep hB8)
  have B8 := Lib.hid (B7.out.trans (hB8.mono B7.out.size))
  have U3 := Lib.hid hu3
  obtain ⟨b3, A3, n3, c3, A4, n4, c4, rfl, -⟩ := hu3
  clear hB8 HRR U1
  go_upto_region 10 with fail
  generalize hY : w8.alloc _ = Y
  have hBY : Below w8.heap.size w8 Y := by rw [← hY]; exact below_alloc _ _
  have g4 : Wr4 w8.heap.size 47 Y := by rw [← hY]; exact Wr4.new _ _ _ _ _ 47 rfl
  obtain ⟨k0, k1, k2, k3⟩ : Y.cell? ⟨w8.heap.size, 0, none⟩ = some (.bool b3) ∧ Y.cell? ⟨w8.heap.size, 1, none⟩ = some (.slice A3 n3 c3) ∧ Y.cell? ⟨w8.heap.size, 2, none⟩ = some (.bool false) ∧ Y.cell? ⟨w8.heap.size, 3, none⟩ = some (.slice A4 n4 c4) := by
    subst hY
    simp [go_sem]
  have UY := Lib.hid (QV.keep U3.out hBY)
  have WY := Lib.hid (W8.out.keep hBY)
  have BY := Lib.hid (B8.out.trans (hBY.mono B8.out.size))
  have GY := Lib.hid g4
  have hgl : w.heap.size < w8.heap.size := W8.out.2.2.2.lt
  generalize w8.heap.size = g at *
  clear hY hBY U3 g4
  go_wp2_with fail
  (with_reducible refine (HN.out Y _ UY.out).mono ?_)
  rintro e wn ⟨u4, rfl, hu4, hBn⟩
  have WN := WY.out.keep hBn
  have BN := BY.out.trans (hBn.mono BY.out.size)
  have GN := GY.out.keep hBn
  obtain ⟨b5, A5, n5, c5, A6, n6, c6, rfl, hq5⟩ := hu4
  have HE : Hid (EndQ w g y ((((wn.setCell ⟨g, 0, none⟩ (.bool b5)).setCell ⟨g, 1, none⟩ (.slice A5 n5 c5)).setCell ⟨g, 2, none⟩ (.bool false)).setCell ⟨g, 3, none⟩ (.slice A6 n6 c6)) ∧
      Wr w.heap.size 23 ((((wn.setCell ⟨g, 0, none⟩ (.bool b5)).setCell ⟨g, 1, none⟩ (.slice A5 n5 c5)).setCell ⟨g, 2, none⟩ (.bool false)).setCell ⟨g, 3, none⟩ (.slice A6 n6 c6))) :=
    ⟨endQ_store BN (Nat.le_of_lt hgl) GN hq5, (((WN.far (Nat.ne_of_lt hgl) _ _).far (Nat.ne_of_lt hgl) _ _).far (Nat.ne_of_lt hgl) _ _).far (Nat.ne_of_lt hgl) _ _⟩
  obtain ⟨⟨o0, o1, o2, o3, q0, q1, q2, q3⟩, f0, f1, f2, f3, -⟩ := GN
  clear k0 k1 k2 k3 hBn WN BN hq5 UY GY HN
  go_upto_region 12 with fail
  generalize (World.setCell (World.setCell (World.setCell (World.setCell wn _ _) _ _) _ _) _ _) = E at HE ⊢
  clear q0 q1 q2 q3 f0 f1 f2 f3
  obtain ⟨⟨b7, A7, n7, c7, A8, n8, c8, ⟨l0, l1, l2, l3⟩, hq7, hBE⟩, hWE⟩ := HE.out
  have HQE := Lib.hid (HQ.out E _ ⟨b7, A7, n7, c7, A8, n8, c8, rfl, hq7⟩)
  have BE := Lib.hid hBE
  have WE := Lib.hid hWE
  clear hq7 hBE hWE HE
  go_wp2_with fail
  (with_reducible refine HQE.out.mono ?_)
  rintro e wz ⟨rfl, hBz⟩
  have BZ := BE.out.trans (hBz.mono BE.out.size)
  obtain ⟨⟨p1, p2, p3, p4⟩, p5, p6, p7⟩ := WE.out.keep hBz
  clear l0 l1 l2 l3
  go_wp2_with fail
  exact bodyPost_ret (v := .tuple #[.agg #[.int .i64 r1, .int .i64 r2], .int .i64 r3]) (by simp [results, Tryz.results7, go_sem, *]) rfl ⟨rfl, (BZ.setCell (Nat.le_refl _) _).setCell (Nat.le_refl _) _⟩

end Go.Proofs.YtfhmhkbjcccejaaGreatDoor
