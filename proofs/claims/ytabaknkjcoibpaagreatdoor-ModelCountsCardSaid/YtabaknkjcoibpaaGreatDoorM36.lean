/- num.Dot, for lists of at most 200 numbers. -/
import Derived.Test.YtabaknkjcoibpaaGreatDoorM35

namespace Go.Proofs.YtabaknkjcoibpaaGreatDoor
open Go.RowKit

set_option maxRecDepth 100000 in
theorem unsigned_any (x : Nat) (w : World) (hx : x < 18446744073709551616) :
    Calls Tryz.prog 221 #[.int .u64 (x : Int)] w (RetN x w) := by
  have HW := Lib.hid (fun wx => word_any x wx hx)
  clear hx
  go_enter Tryz.func221, Tryz.ntmps221
  go_upto_region 1 with fail
  generalize hX : w.alloc _ = X
  have hXX : Below w.heap.size w X ∧ Wr w.heap.size 183 X := by
    subst hX
    exact ⟨(Below.refl _ _).alloc (Nat.le_refl _) _, Wr.new _ _ _ 183 rfl⟩
  obtain ⟨hwX, hW⟩ := hXX
  clear hX
  have HWX := Lib.hid hW
  have HwX := Lib.hid hwX
  clear hW hwX
  go_wp2_with fail
  (with_reducible refine (HW.out _).mono ?_)
  rintro e w1 ⟨v, rfl, hD, hB⟩
  obtain ⟨A1, n1, c1, rfl⟩ := hD.shape
  obtain ⟨⟨p1, p2, p3, p4⟩, p5, p6, p7⟩ := HWX.out.keep hB
  have HB := Lib.hid (HwX.out.trans (hB.mono HwX.out.size))
  clear hB
  go_wp2_with fail
  exact bodyPost_ret (v := .agg #[.bool false, .slice A1 n1 c1]) (by simp [results, Tryz.results221, go_sem, *]) rfl
    (RetN.of (retJ_box (by simp) (by simpa using hD) p7 HB.out (Nat.le_refl _)))

set_option maxRecDepth 100000 in
theorem low_zero (w : World) :
    Calls Tryz.prog 189 #[.agg #[.bool false, .slice none 0 0, .bool false, .slice none 0 0]] w (RetN 1 w) := by
  have HS : Hid (∀ wx, Calls Tryz.prog 220 #[.agg #[.bool false, .slice none 0 0]] wx fun e w' => e = .returned (.int .i64 0) ∧ Below wx.heap.size wx w') := fun wx => signI_any false none 0 0 wx (by omega)
  have HU : Hid (∀ wx, Calls Tryz.prog 221 #[.int .u64 1] wx (RetN 1 wx)) := fun wx => unsigned_any 1 wx (by omega)
  go_enter Tryz.func189, Tryz.ntmps189
  go_upto_region 1 with fail
  generalize hX : (w.alloc _).alloc _ = X
  have hXX : Below w.heap.size w X ∧ X.cell? ⟨w.heap.size, 2, none⟩ = some (.bool false) ∧ X.cell? ⟨w.heap.size, 3, none⟩ = some (.slice none 0 0) ∧ w.heap.size < X.heap.size ∧ Wr (w.heap.size + 1) 183 X := by
    subst hX
    exact ⟨((Below.refl _ _).alloc (Nat.le_refl _) _).alloc (by simp) _, by simp [go_sem], by simp [go_sem], by simp; omega, Wr.new _ _ _ 183 (by simp)⟩
  obtain ⟨hwX, k2, k3, hz, hW⟩ := hXX
  clear hX
  have HWX := Lib.hid hW
  have HwX := Lib.hid hwX
  clear hW hwX
  go_wp2_with fail
  (with_reducible refine (HS.out X).mono ?_)
  rintro e w1 ⟨rfl, hB⟩
  have W1 := Lib.hid (HWX.out.keep hB)
  have B1 := Lib.hid (HwX.out.trans (hB.mono HwX.out.size))
  clear k2 k3 hB hz
  go_wp2_with fail
  (with_reducible refine (HU.out w1).mono ?_)
  rintro e w2 ⟨L, nl, cl, rfl, hD, hB2⟩
  obtain ⟨⟨p1, p2, p3, p4⟩, p5, p6, p7⟩ := W1.out.keep hB2
  have B2 := Lib.hid (B1.out.trans (hB2.mono B1.out.size))
  clear hB2
  go_wp2_with fail
  exact bodyPost_ret (v := .agg #[.bool false, .slice L nl cl]) (by simp [results, Tryz.results189, go_sem, *]) rfl
    (RetN.of (retJ_box (by simp) (by simpa using hD) p7 B2.out (by omega)))

set_option maxRecDepth 100000 in
set_option maxHeartbeats 2000000 in
theorem num_zero (w : World) :
    Calls Tryz.prog 152 #[.agg #[.bool false, .slice none 0 0, .bool false, .slice none 0 0]] w fun e w' => e = .returned (outN 0) ∧ Below w.heap.size w w' := by
  have eo : outN 0 = .tuple #[.agg #[.int .i64 0, .int .i64 1], .int .i64 0] := by
    have hf : Fits 0 := ⟨by decide, by decide⟩
    unfold outN
    rw [if_pos hf]
    rfl
  rw [eo]
  clear eo
  have hz0 : ∀ wx, D wx (.slice none 0 0) 0 := fun wx => ⟨none, 0, 0, fun _ => 0, rfl, Nat.le_refl _, fun i hi => absurd hi (by omega), Or.inl rfl, rfl, fun h => absurd h (by omega), fun h => absurd h (by omega)⟩
  have HL1 : Hid (∀ wx, Calls Tryz.prog 188 #[.agg #[.bool false, .slice none 0 0]] wx fun e w' => e = .returned (.tuple #[.int .i64 0, .bool true]) ∧ Below wx.heap.size wx w') := fun wx =>
    limited_small false none 0 0 0 wx (hz0 wx) (by decide)
  have HL2 : Hid (∀ wx L nl cl, D wx (.slice L nl cl) 1 → Calls Tryz.prog 188 #[.agg #[.bool false, .slice L nl cl]] wx fun e w' => e = .returned (.tuple #[.int .i64 1, .bool true]) ∧ Below wx.heap.size wx w') := fun wx L nl cl h =>
    limited_small false L nl cl 1 wx h (by decide)
  clear hz0
  go_enter Tryz.func152, Tryz.ntmps152
  go_upto_region 1 with fail
  generalize hX : (w.alloc _).alloc _ = X
  have hXX : Below w.heap.size w X ∧ X.cell? ⟨w.heap.size, 0, none⟩ = some (.bool false) ∧ X.cell? ⟨w.heap.size, 1, none⟩ = some (.slice none 0 0) ∧ X.cell? ⟨w.heap.size, 2, none⟩ = some (.bool false) ∧ X.cell? ⟨w.heap.size, 3, none⟩ = some (.slice none 0 0) ∧ w.heap.size < X.heap.size ∧ Wr (w.heap.size + 1) 62 X := by
    subst hX
    exact ⟨((Below.refl _ _).alloc (Nat.le_refl _) _).alloc (by simp) _, by simp [go_sem], by simp [go_sem], by simp [go_sem], by simp [go_sem], by simp; omega, Wr.new _ _ _ 62 (by simp)⟩
  obtain ⟨hwX, k0, k1, k2, k3, hz, hW⟩ := hXX
  clear hX
  go_wp2_with fail
  (with_reducible refine (top_any false false none none 0 0 0 0 X).mono ?_)
  rintro e w1 ⟨rfl, hB1⟩
  have B1 := hwX.trans (hB1.mono hwX.size)
  go_wp2_with fail
  (with_reducible refine (HL1.out w1).mono ?_)
  rintro e w2 ⟨rfl, hB2⟩
  have hX2 : Below X.heap.size X w2 := below_trans_same hB1 hB2
  have l0 := (hX2.cell (p := ⟨w.heap.size, 0, none⟩) hz).trans k0
  have l1 := (hX2.cell (p := ⟨w.heap.size, 1, none⟩) hz).trans k1
  have l2 := (hX2.cell (p := ⟨w.heap.size, 2, none⟩) hz).trans k2
  have l3 := (hX2.cell (p := ⟨w.heap.size, 3, none⟩) hz).trans k3
  clear k0 k1 k2 k3
  go_wp2_with fail
  (with_reducible refine (low_zero w2).mono ?_)
  rintro e w3 ⟨L, nl, cl, rfl, hD, hB3⟩
  have B3 := (B1.trans (hB2.mono B1.size)).trans (hB3.mono (B1.trans (hB2.mono B1.size)).size)
  go_wp2_with fail
  (with_reducible refine (HL2.out w3 _ _ _ hD).mono ?_)
  rintro e w4 ⟨rfl, hB4⟩
  have hX4 : Below X.heap.size X w4 := below_trans_same (below_trans_same hX2 hB3) hB4
  have B4 := hwX.trans (hX4.mono hwX.size)
  obtain ⟨⟨p1, p2, p3, p4⟩, p5, p6, p7⟩ := hW.keep hX4
  clear l0 l1 l2 l3
  go_wp2_with fail
  exact bodyPost_ret (v := .tuple #[.agg #[.int .i64 0, .int .i64 1], .int .i64 0]) (by simp [results, Tryz.results152, go_sem, *]) rfl ⟨rfl, (B4.setCell (by show w.heap.size ≤ w.heap.size + 1; omega) _).setCell (by show w.heap.size ≤ w.heap.size + 1; omega) _⟩

set_option maxRecDepth 100000 in
theorem dot_zero (A B : Option Addr) (ca cb : Nat) (w : World) :
    Calls Tryz.prog 151 #[.slice A 0 ca, .slice B 0 cb] w fun e w' => e = .returned (.agg #[.bool false, .slice none 0 0, .bool false, .slice none 0 0]) ∧ Below w.heap.size w w' := by
  go_enter Tryz.func151, Tryz.ntmps151
  go_wp2_with fail
  exact bodyPost_ret (v := .agg #[.bool false, .slice none 0 0, .bool false, .slice none 0 0]) (by simp [results, Tryz.results151, go_sem, *]) rfl ⟨rfl, by repeat (first | exact below_alloc _ _ | refine Below.setCell ?_ (Nat.le_refl _) _)⟩

set_option maxRecDepth 100000 in
set_option maxHeartbeats 4000000 in
theorem ndot_bad1 (A B : Option Addr) (n m ca cb : Nat) (w : World) (_hn : n ≤ 1000000) (_hm : m ≤ 1000000)
    (HV1 : Hid (∀ wx, Below w.heap.size w wx → Calls Tryz.prog 150 #[.slice A n ca] wx fun e w' => e = .returned (.bool false) ∧ Below wx.heap.size wx w')) :
    Calls Tryz.prog 126 #[.slice A n ca, .slice B m cb] w fun e w' => e = .returned (.tuple #[.agg #[.int .i64 0, .int .i64 0], .int .i64 1]) ∧ Below w.heap.size w w' := by
  go_enter Tryz.func126, Tryz.ntmps126
  go_upto_region 1 with fail
  generalize hX : w.alloc _ = X
  have hwX : Below w.heap.size w X := by rw [← hX]; exact below_alloc _ _
  have hWX : Wr w.heap.size 62 X := by rw [← hX]; exact Wr.new _ _ _ 62 rfl
  clear hX
  have HWX := Lib.hid hWX
  have HwX := Lib.hid hwX
  clear hWX hwX
  go_wp2_with fail
  (with_reducible refine (HV1.out X HwX.out).mono ?_)
  rintro e w1 ⟨rfl, hB1⟩
  have W1 := Lib.hid (HWX.out.keep hB1)
  have B1 := Lib.hid (HwX.out.trans (hB1.mono HwX.out.size))
  clear hB1 HV1 HWX HwX
  obtain ⟨⟨p1, p2, p3, p4⟩, p5, p6, p7⟩ := W1.out
  go_wp2_with fail
  exact bodyPost_ret (v := .tuple #[.agg #[.int .i64 0, .int .i64 0], .int .i64 1]) (by simp [results, Tryz.results126, go_sem, *]) rfl ⟨rfl, (B1.out.setCell (Nat.le_refl _) _).setCell (Nat.le_refl _) _⟩

set_option maxRecDepth 100000 in
set_option maxHeartbeats 4000000 in
theorem ndot_bad2 (A B : Option Addr) (n m ca cb : Nat) (w : World) (_hn : n ≤ 1000000) (_hm : m ≤ 1000000)
    (HV1 : Hid (∀ wx, Below w.heap.size w wx → Calls Tryz.prog 150 #[.slice A n ca] wx fun e w' => e = .returned (.bool true) ∧ Below wx.heap.size wx w'))
    (HV2 : Hid (∀ wx, Below w.heap.size w wx → Calls Tryz.prog 150 #[.slice B m cb] wx fun e w' => e = .returned (.bool false) ∧ Below wx.heap.size wx w')) :
    Calls Tryz.prog 126 #[.slice A n ca, .slice B m cb] w fun e w' => e = .returned (.tuple #[.agg #[.int .i64 0, .int .i64 0], .int .i64 1]) ∧ Below w.heap.size w w' := by
  go_enter Tryz.func126, Tryz.ntmps126
  go_upto_region 1 with fail
  generalize hX : w.alloc _ = X
  have hwX : Below w.heap.size w X := by rw [← hX]; exact below_alloc _ _
  have hWX : Wr w.heap.size 62 X := by rw [← hX]; exact Wr.new _ _ _ 62 rfl
  clear hX
  have HWX := Lib.hid hWX
  have HwX := Lib.hid hwX
  clear hWX hwX
  go_wp2_with fail
  (with_reducible refine (HV1.out X HwX.out).mono ?_)
  rintro e w1 ⟨rfl, hB1⟩
  have W1 := Lib.hid (HWX.out.keep hB1)
  have B1 := Lib.hid (HwX.out.trans (hB1.mono HwX.out.size))
  clear hB1 HV1 HWX HwX
  go_wp2_with fail
  (with_reducible refine (HV2.out w1 B1.out).mono ?_)
  rintro e w2 ⟨rfl, hB2⟩
  have W2 := Lib.hid (W1.out.keep hB2)
  have B2 := Lib.hid (B1.out.trans (hB2.mono B1.out.size))
  clear hB2 HV2
  obtain ⟨⟨p1, p2, p3, p4⟩, p5, p6, p7⟩ := W2.out
  go_wp2_with fail
  exact bodyPost_ret (v := .tuple #[.agg #[.int .i64 0, .int .i64 0], .int .i64 1]) (by simp [results, Tryz.results126, go_sem, *]) rfl ⟨rfl, (B2.out.setCell (Nat.le_refl _) _).setCell (Nat.le_refl _) _⟩

set_option maxRecDepth 100000 in
set_option maxHeartbeats 4000000 in
theorem ndot_dim (A B : Option Addr) (n m ca cb : Nat) (w : World) (_hn : n ≤ 1000000) (_hm : m ≤ 1000000)
    (HV1 : Hid (∀ wx, Below w.heap.size w wx → Calls Tryz.prog 150 #[.slice A n ca] wx fun e w' => e = .returned (.bool true) ∧ Below wx.heap.size wx w'))
    (HV2 : Hid (∀ wx, Below w.heap.size w wx → Calls Tryz.prog 150 #[.slice B m cb] wx fun e w' => e = .returned (.bool true) ∧ Below wx.heap.size wx w')) (hne : n ≠ m) :
    Calls Tryz.prog 126 #[.slice A n ca, .slice B m cb] w fun e w' => e = .returned (.tuple #[.agg #[.int .i64 0, .int .i64 0], .int .i64 2]) ∧ Below w.heap.size w w' := by
  have hb : ((n : Int) != (m : Int)) = true := by rw [bne_iff_ne]; omega
  go_enter Tryz.func126, Tryz.ntmps126
  go_upto_region 1 with fail
  generalize hX : w.alloc _ = X
  have hwX : Below w.heap.size w X := by rw [← hX]; exact below_alloc _ _
  have hWX : Wr w.heap.size 62 X := by rw [← hX]; exact Wr.new _ _ _ 62 rfl
  clear hX
  have HWX := Lib.hid hWX
  have HwX := Lib.hid hwX
  clear hWX hwX
  go_wp2_with fail
  (with_reducible refine (HV1.out X HwX.out).mono ?_)
  rintro e w1 ⟨rfl, hB1⟩
  have W1 := Lib.hid (HWX.out.keep hB1)
  have B1 := Lib.hid (HwX.out.trans (hB1.mono HwX.out.size))
  clear hB1 HV1 HWX HwX
  go_wp2_with fail
  (with_reducible refine (HV2.out w1 B1.out).mono ?_)
  rintro e w2 ⟨rfl, hB2⟩
  have W2 := Lib.hid (W1.out.keep hB2)
  have B2 := Lib.hid (B1.out.trans (hB2.mono B1.out.size))
  clear hB2 HV2
  obtain ⟨⟨p1, p2, p3, p4⟩, p5, p6, p7⟩ := W2.out
  go_wp2_with fail
  exact bodyPost_ret (v := .tuple #[.agg #[.int .i64 0, .int .i64 0], .int .i64 2]) (by simp [results, Tryz.results126, go_sem, *]) rfl ⟨rfl, (B2.out.setCell (Nat.le_refl _) _).setCell (Nat.le_refl _) _⟩

set_option maxRecDepth 100000 in
set_option maxHeartbeats 4000000 in
theorem ndot_ok (A B : Option Addr) (n m ca cb : Nat) (p q r : Int) (w : World) (_hn : n ≤ 1000000) (_hm : m ≤ 1000000)
    (HV1 : Hid (∀ wx, Below w.heap.size w wx → Calls Tryz.prog 150 #[.slice A n ca] wx fun e w' => e = .returned (.bool true) ∧ Below wx.heap.size wx w'))
    (HV2 : Hid (∀ wx, Below w.heap.size w wx → Calls Tryz.prog 150 #[.slice B m cb] wx fun e w' => e = .returned (.bool true) ∧ Below wx.heap.size wx w')) (hne : n = m)
    (HD : Hid (∀ wx, Below w.heap.size w wx → Calls Tryz.prog 151 #[.slice A n ca, .slice B m cb] wx fun e w' => ∃ d, e = .returned d ∧ Hid (Calls Tryz.prog 152 #[d] w' fun e w'' => e = .returned (.tuple #[.agg #[.int .i64 p, .int .i64 q], .int .i64 r]) ∧ Below w'.heap.size w' w'') ∧ Below wx.heap.size wx w')) :
    Calls Tryz.prog 126 #[.slice A n ca, .slice B m cb] w fun e w' => e = .returned (.tuple #[.agg #[.int .i64 p, .int .i64 q], .int .i64 r]) ∧ Below w.heap.size w w' := by
  subst hne
  have hb : ((n : Int) != (n : Int)) = false := by simp
  go_enter Tryz.func126, Tryz.ntmps126
  go_upto_region 1 with fail
  generalize hX : w.alloc _ = X
  have hwX : Below w.heap.size w X := by rw [← hX]; exact below_alloc _ _
  have hWX : Wr w.heap.size 62 X := by rw [← hX]; exact Wr.new _ _ _ 62 rfl
  clear hX
  have HWX := Lib.hid hWX
  have HwX := Lib.hid hwX
  clear hWX hwX
  go_wp2_with fail
  (with_reducible refine (HV1.out X HwX.out).mono ?_)
  rintro e w1 ⟨rfl, hB1⟩
  have W1 := Lib.hid (HWX.out.keep hB1)
  have B1 := Lib.hid (HwX.out.trans (hB1.mono HwX.out.size))
  clear hB1 HV1 HWX HwX
  go_wp2_with fail
  (with_reducible refine (HV2.out w1 B1.out).mono ?_)
  rintro e w2 ⟨rfl, hB2⟩
  have W2 := Lib.hid (W1.out.keep hB2)
  have B2 := Lib.hid (B1.out.trans (hB2.mono B1.out.size))
  clear hB2 HV2
  go_wp2_with fail
  (with_reducible refine (HD.out w2 B2.out).mono ?_)
  rintro e w3 ⟨d, rfl, HN, hB3⟩
  have W3 := Lib.hid (W2.out.keep hB3)
  have B3 := Lib.hid (B2.out.trans (hB3.mono B2.out.size))
  clear hB3 HD
  go_wp2_with fail
  (with_reducible refine HN.out.mono ?_)
  rintro e w4 ⟨rfl, hB4⟩
  have W4 := Lib.hid (W3.out.keep hB4)
  have B4 := Lib.hid (B3.out.trans (hB4.mono B3.out.size))
  clear hB4 HN
  obtain ⟨⟨p1, p2, p3, p4⟩, p5, p6, p7⟩ := W4.out
  go_wp2_with fail
  exact bodyPost_ret (v := .tuple #[.agg #[.int .i64 p, .int .i64 q], .int .i64 r]) (by simp [results, Tryz.results126, go_sem, *]) rfl ⟨rfl, (B4.out.setCell (Nat.le_refl _) _).setCell (Nat.le_refl _) _⟩

/-- What Dot answers. -/
def dotT (n m : Nat) (t l t' l' : Nat → Int) : Int × Int × Int :=
  if allB (fun i => vld (t i) (l i)) n && allB (fun i => vld (t' i) (l' i)) m then (if n = m then outT (sumQ (Pr t l t' l') n) else (0, 0, 2)) else (0, 0, 1)

theorem ndot_any (A B : Option Addr) (n m ca cb : Nat) (t l t' l' : Nat → Int) (w : World) (hn : n ≤ 200) (hm : m ≤ 200) (hca : n ≤ ca) (hcb : m ≤ cb) (hA : Lnum w A n t l) (hB : Lnum w B m t' l') :
    Calls Tryz.prog 126 #[.slice A n ca, .slice B m cb] w fun e w' => e = .returned (val3 (dotT n m t l t' l')) ∧ Below w.heap.size w w' := by
  have HV1 : Hid (∀ wx, Below w.heap.size w wx → Calls Tryz.prog 150 #[.slice A n ca] wx fun e w' => e = .returned (.bool (allB (fun i => vld (t i) (l i)) n)) ∧ Below wx.heap.size wx w') := fun wx hx => allValid_any A n ca t l wx (by omega) (hA.keep hx)
  have HV2 : Hid (∀ wx, Below w.heap.size w wx → Calls Tryz.prog 150 #[.slice B m cb] wx fun e w' => e = .returned (.bool (allB (fun i => vld (t' i) (l' i)) m)) ∧ Below wx.heap.size wx w') := fun wx hx => allValid_any B m cb t' l' wx (by omega) (hB.keep hx)
  unfold dotT
  cases h1 : allB (fun i => vld (t i) (l i)) n with
  | false =>
    rw [h1] at HV1
    exact ndot_bad1 A B n m ca cb w (by omega) (by omega) HV1
  | true =>
    rw [h1] at HV1
    cases h2 : allB (fun i => vld (t' i) (l' i)) m with
    | false =>
      rw [h2] at HV2
      exact ndot_bad2 A B n m ca cb w (by omega) (by omega) HV1 HV2
    | true =>
      rw [h2] at HV2
      by_cases hne : n = m
      · subst hne
        obtain ⟨z, hz⟩ : ∃ z, sumQ (Pr t l t' l') n = z := ⟨_, rfl⟩
        rw [hz, if_pos (show (true && true) = true from rfl), if_pos rfl]
        rw [← outN_val]
        have ev : outN z = .tuple #[.agg #[.int .i64 (outT z).1, .int .i64 (outT z).2.1], .int .i64 (outT z).2.2] := outN_val z
        rw [ev]
        rcases Nat.eq_zero_or_pos n with h0 | h0
        · subst h0
          refine ndot_ok A B 0 0 ca cb _ _ _ w (by omega) (by omega) HV1 HV2 rfl ?_
          refine Lib.hid fun wx hx => (dot_zero A B ca cb wx).mono fun e w' h => ⟨_, h.1, ?_, h.2⟩
          have hz0 : (0 : Rat) = z := hz
          rw [← ev, ← hz0]
          exact num_zero w'
        · have hval : ∀ i, i < n → vld (t i) (l i) = true := fun i hi => allB_get h1 hi
          have hval' : ∀ i, i < n → vld (t' i) (l' i) = true := fun i hi => allB_get h2 hi
          have hlong := Bd.dot (f := Pr t l t' l') hn fun i hi => pr_bd (hval i hi) (hval' i hi)
          rw [hz] at hlong
          refine ndot_ok A B n n ca cb _ _ _ w (by omega) (by omega) HV1 HV2 rfl ?_
          refine Lib.hid fun wx hx => (dot_any n h0 hn A B ca cb t l t' l' wx (hA.keep hx) (hB.keep hx) hval hval' hca hcb).mono fun e w' h => ?_
          rw [hz] at h
          obtain ⟨A1, n1, c1, B1, m1, d1, rfl, hq, e1, e2, hb⟩ := h.long hlong
          refine ⟨_, rfl, ?_, hb⟩
          rw [← ev]
          exact num_any _ A1 B1 n1 c1 m1 d1 z w' hq (by omega) (by omega)
      · rw [if_pos (show (true && true) = true from rfl), if_neg hne]
        exact ndot_dim A B n m ca cb w (by omega) (by omega) HV1 HV2 hne

end Go.Proofs.YtabaknkjcoibpaaGreatDoor
