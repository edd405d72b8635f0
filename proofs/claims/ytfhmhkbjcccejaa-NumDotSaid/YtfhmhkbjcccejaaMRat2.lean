/- Fractions of any size in memory, as numbers within the limits. -/
import Derived.Test.YtfhmhkbjcccejaaMRat1

namespace Go.Proofs.Ytfhmhkbjcccejaa
open Go.RowKit

/-- The reading of a fraction. -/
def Q (w : World) (b : Bool) (s t : Value) (x : Rat) : Prop := b = decide (x.num < 0) ∧ D w s x.num.natAbs ∧ D w t x.den
theorem Q.keep {w w' : World} {b : Bool} {s t : Value} {x : Rat} (h : Q w b s t x) (hb : Below w.heap.size w w') : Q w' b s t x := ⟨h.1, h.2.1.keep hb, h.2.2.keep hb⟩
theorem Q.sgn {w : World} {b : Bool} {s t : Value} {x : Rat} (h : Q w b s t x) : sgn b x.num.natAbs = x.num := by
  rw [h.1]
  by_cases g : x.num < 0
  · rw [decide_eq_true g]
    show -((x.num.natAbs : Nat) : Int) = x.num
    omega
  · rw [decide_eq_false g]
    show ((x.num.natAbs : Nat) : Int) = x.num
    omega
theorem Q.low {w : World} {b : Bool} {s : Value} {B : Option Addr} {m d : Nat} {x : Rat} (h : Q w b s (.slice B m d) x) : 0 < m := by
  rcases Nat.eq_zero_or_pos m with g | g
  · have := (h.2.2.zero).2 g
    exact absurd this x.den_nz
  · exact g

/-- Is the fraction within the limits? -/
def Fits (x : Rat) : Prop := x.num.natAbs ≤ MaxN ∧ x.den ≤ MaxN

set_option maxRecDepth 100000 in
set_option maxHeartbeats 2000000 in
theorem num_ok (b : Bool) (A B : Option Addr) (n c m d : Nat) (x : Rat) (w : World) (h : Q w b (.slice A n c) (.slice B m d) x) (hm : m ≤ 400000) (hf : Fits x) :
    Calls Try.prog 34 #[.agg #[.bool b, .slice A n c, .bool false, .slice B m d]] w fun e w' => e = .returned (.tuple #[.agg #[.int .i64 x.num, .int .i64 (x.den : Int)], .int .i64 0]) ∧ Below w.heap.size w w' := by
  have hm0 := h.low
  have HL1 : Hid (∀ wx, Below w.heap.size w wx → Calls Try.prog 70 #[.agg #[.bool b, .slice A n c]] wx fun e w' => e = .returned (.tuple #[.int .i64 x.num, .bool true]) ∧ Below wx.heap.size wx w') := fun wx hx => by
    have := limited_small b A n c _ wx (h.keep hx).2.1 hf.1
    rw [h.sgn] at this
    exact this
  have HL2 : Hid (∀ wx, Below w.heap.size w wx → Calls Try.prog 70 #[.agg #[.bool false, .slice B m d]] wx fun e w' => e = .returned (.tuple #[.int .i64 (x.den : Int), .bool true]) ∧ Below wx.heap.size wx w') := fun wx hx => limited_small false B m d _ wx (h.keep hx).2.2 hf.2
  clear h hf
  go_enter Try.func34, Try.ntmps34
  go_upto_region 1 with fail
  generalize hX : (w.alloc _).alloc _ = X
  have hXX : Below w.heap.size w X ∧ X.cell? ⟨w.heap.size, 0, none⟩ = some (.bool b) ∧ X.cell? ⟨w.heap.size, 1, none⟩ = some (.slice A n c) ∧ X.cell? ⟨w.heap.size, 2, none⟩ = some (.bool false) ∧ X.cell? ⟨w.heap.size, 3, none⟩ = some (.slice B m d) ∧ w.heap.size < X.heap.size ∧ Wr (w.heap.size + 1) 23 X := by
    subst hX
    exact ⟨((Below.refl _ _).alloc (Nat.le_refl _) _).alloc (by simp) _, by simp [go_sem], by simp [go_sem], by simp [go_sem], by simp [go_sem], by simp; omega, Wr.new _ _ _ 23 (by simp)⟩
  obtain ⟨hwX, k0, k1, k2, k3, hz, hW⟩ := hXX
  clear hX
  go_wp2_with fail
  (with_reducible refine (top_any b false A B n c m d X).mono ?_)
  rintro e w1 ⟨rfl, hB1⟩
  have B1 := hwX.trans (hB1.mono hwX.size)
  go_wp2_with fail
  (with_reducible refine (HL1.out w1 B1).mono ?_)
  rintro e w2 ⟨rfl, hB2⟩
  have hX2 : Below X.heap.size X w2 := below_trans_same hB1 hB2
  have l0 := (hX2.cell (p := ⟨w.heap.size, 0, none⟩) hz).trans k0
  have l1 := (hX2.cell (p := ⟨w.heap.size, 1, none⟩) hz).trans k1
  have l2 := (hX2.cell (p := ⟨w.heap.size, 2, none⟩) hz).trans k2
  have l3 := (hX2.cell (p := ⟨w.heap.size, 3, none⟩) hz).trans k3
  clear k0 k1 k2 k3
  go_wp2_with fail
  (with_reducible refine (low_any b A B n c m d w2 hm0 (by omega)).mono ?_)
  rintro e w3 ⟨rfl, hB3⟩
  have B3 := (B1.trans (hB2.mono B1.size)).trans (hB3.mono (B1.trans (hB2.mono B1.size)).size)
  go_wp2_with fail
  (with_reducible refine (HL2.out w3 B3).mono ?_)
  rintro e w4 ⟨rfl, hB4⟩
  have hX4 : Below X.heap.size X w4 := below_trans_same (below_trans_same hX2 hB3) hB4
  have B4 := hwX.trans (hX4.mono hwX.size)
  obtain ⟨⟨p1, p2, p3, p4⟩, p5, p6, p7⟩ := hW.keep hX4
  clear l0 l1 l2 l3
  go_wp2_with fail
  exact bodyPost_ret (v := .tuple #[.agg #[.int .i64 x.num, .int .i64 (x.den : Int)], .int .i64 0]) (by simp [results, Try.results34, go_sem, *]) rfl ⟨rfl, (B4.setCell (by show w.heap.size ≤ w.heap.size + 1; omega) _).setCell (by show w.heap.size ≤ w.heap.size + 1; omega) _⟩

set_option maxRecDepth 100000 in
set_option maxHeartbeats 2000000 in
theorem num_bb (b : Bool) (A B : Option Addr) (n c m d : Nat) (x : Rat) (w : World) (h : Q w b (.slice A n c) (.slice B m d) x) (hn : n ≤ 400000) (hm : m ≤ 400000) (hf1 : MaxN < x.num.natAbs) (hf2 : MaxN < x.den) :
    Calls Try.prog 34 #[.agg #[.bool b, .slice A n c, .bool false, .slice B m d]] w fun e w' => e = .returned (.tuple #[.agg #[.int .i64 0, .int .i64 0], .int .i64 3]) ∧ Below w.heap.size w w' := by
  have hm0 := h.low
  have HL1 : Hid (∀ wx, Below w.heap.size w wx → Calls Try.prog 70 #[.agg #[.bool b, .slice A n c]] wx fun e w' => e = .returned (.tuple #[.int .i64 0, .bool false]) ∧ Below wx.heap.size wx w') := fun wx hx => limited_big b A n c _ wx (h.keep hx).2.1 hn hf1
  have HL2 : Hid (∀ wx, Below w.heap.size w wx → Calls Try.prog 70 #[.agg #[.bool false, .slice B m d]] wx fun e w' => e = .returned (.tuple #[.int .i64 0, .bool false]) ∧ Below wx.heap.size wx w') := fun wx hx => limited_big false B m d _ wx (h.keep hx).2.2 hm hf2
  clear h hf1 hf2
  go_enter Try.func34, Try.ntmps34
  go_upto_region 1 with fail
  generalize hX : (w.alloc _).alloc _ = X
  have hXX : Below w.heap.size w X ∧ X.cell? ⟨w.heap.size, 0, none⟩ = some (.bool b) ∧ X.cell? ⟨w.heap.size, 1, none⟩ = some (.slice A n c) ∧ X.cell? ⟨w.heap.size, 2, none⟩ = some (.bool false) ∧ X.cell? ⟨w.heap.size, 3, none⟩ = some (.slice B m d) ∧ w.heap.size < X.heap.size ∧ Wr (w.heap.size + 1) 23 X := by
    subst hX
    exact ⟨((Below.refl _ _).alloc (Nat.le_refl _) _).alloc (by simp) _, by simp [go_sem], by simp [go_sem], by simp [go_sem], by simp [go_sem], by simp; omega, Wr.new _ _ _ 23 (by simp)⟩
  obtain ⟨hwX, k0, k1, k2, k3, hz, hW⟩ := hXX
  clear hX
  go_wp2_with fail
  (with_reducible refine (top_any b false A B n c m d X).mono ?_)
  rintro e w1 ⟨rfl, hB1⟩
  have B1 := hwX.trans (hB1.mono hwX.size)
  go_wp2_with fail
  (with_reducible refine (HL1.out w1 B1).mono ?_)
  rintro e w2 ⟨rfl, hB2⟩
  have hX2 : Below X.heap.size X w2 := below_trans_same hB1 hB2
  have l0 := (hX2.cell (p := ⟨w.heap.size, 0, none⟩) hz).trans k0
  have l1 := (hX2.cell (p := ⟨w.heap.size, 1, none⟩) hz).trans k1
  have l2 := (hX2.cell (p := ⟨w.heap.size, 2, none⟩) hz).trans k2
  have l3 := (hX2.cell (p := ⟨w.heap.size, 3, none⟩) hz).trans k3
  clear k0 k1 k2 k3
  go_wp2_with fail
  (with_reducible refine (low_any b A B n c m d w2 hm0 (by omega)).mono ?_)
  rintro e w3 ⟨rfl, hB3⟩
  have B3 := (B1.trans (hB2.mono B1.size)).trans (hB3.mono (B1.trans (hB2.mono B1.size)).size)
  go_wp2_with fail
  (with_reducible refine (HL2.out w3 B3).mono ?_)
  rintro e w4 ⟨rfl, hB4⟩
  have hX4 : Below X.heap.size X w4 := below_trans_same (below_trans_same hX2 hB3) hB4
  have B4 := hwX.trans (hX4.mono hwX.size)
  obtain ⟨⟨p1, p2, p3, p4⟩, p5, p6, p7⟩ := hW.keep hX4
  clear l0 l1 l2 l3
  go_wp2_with fail
  exact bodyPost_ret (v := .tuple #[.agg #[.int .i64 0, .int .i64 0], .int .i64 3]) (by simp [results, Try.results34, go_sem, *]) rfl ⟨rfl, (B4.setCell (by show w.heap.size ≤ w.heap.size + 1; omega) _).setCell (by show w.heap.size ≤ w.heap.size + 1; omega) _⟩
set_option maxRecDepth 100000 in
set_option maxHeartbeats 2000000 in
theorem num_bs (b : Bool) (A B : Option Addr) (n c m d : Nat) (x : Rat) (w : World) (h : Q w b (.slice A n c) (.slice B m d) x) (hn : n ≤ 400000) (hm : m ≤ 400000) (hf1 : MaxN < x.num.natAbs) (hf2 : x.den ≤ MaxN) :
    Calls Try.prog 34 #[.agg #[.bool b, .slice A n c, .bool false, .slice B m d]] w fun e w' => e = .returned (.tuple #[.agg #[.int .i64 0, .int .i64 0], .int .i64 3]) ∧ Below w.heap.size w w' := by
  have hm0 := h.low
  have HL1 : Hid (∀ wx, Below w.heap.size w wx → Calls Try.prog 70 #[.agg #[.bool b, .slice A n c]] wx fun e w' => e = .returned (.tuple #[.int .i64 0, .bool false]) ∧ Below wx.heap.size wx w') := fun wx hx => limited_big b A n c _ wx (h.keep hx).2.1 hn hf1
  have HL2 : Hid (∀ wx, Below w.heap.size w wx → Calls Try.prog 70 #[.agg #[.bool false, .slice B m d]] wx fun e w' => e = .returned (.tuple #[.int .i64 (x.den : Int), .bool true]) ∧ Below wx.heap.size wx w') := fun wx hx => limited_small false B m d _ wx (h.keep hx).2.2 hf2
  clear h hf1 hf2
  go_enter Try.func34, Try.ntmps34
  go_upto_region 1 with fail
  generalize hX : (w.alloc _).alloc _ = X
  have hXX : Below w.heap.size w X ∧ X.cell? ⟨w.heap.size, 0, none⟩ = some (.bool b) ∧ X.cell? ⟨w.heap.size, 1, none⟩ = some (.slice A n c) ∧ X.cell? ⟨w.heap.size, 2, none⟩ = some (.bool false) ∧ X.cell? ⟨w.heap.size, 3, none⟩ = some (.slice B m d) ∧ w.heap.size < X.heap.size ∧ Wr (w.heap.size + 1) 23 X := by
    subst hX
    exact ⟨((Below.refl _ _).alloc (Nat.le_refl _) _).alloc (by simp) _, by simp [go_sem], by simp [go_sem], by simp [go_sem], by simp [go_sem], by simp; omega, Wr.new _ _ _ 23 (by simp)⟩
  obtain ⟨hwX, k0, k1, k2, k3, hz, hW⟩ := hXX
  clear hX
  go_wp2_with fail
  (with_reducible refine (top_any b false A B n c m d X).mono ?_)
  rintro e w1 ⟨rfl, hB1⟩
  have B1 := hwX.trans (hB1.mono hwX.size)
  go_wp2_with fail
  (with_reducible refine (HL1.out w1 B1).mono ?_)
  rintro e w2 ⟨rfl, hB2⟩
  have hX2 : Below X.heap.size X w2 := below_trans_same hB1 hB2
  have l0 := (hX2.cell (p := ⟨w.heap.size, 0, none⟩) hz).trans k0
  have l1 := (hX2.cell (p := ⟨w.heap.size, 1, none⟩) hz).trans k1
  have l2 := (hX2.cell (p := ⟨w.heap.size, 2, none⟩) hz).trans k2
  have l3 := (hX2.cell (p := ⟨w.heap.size, 3, none⟩) hz).trans k3
  clear k0 k1 k2 k3
  go_wp2_with fail
  (with_reducible refine (low_any b A B n c m d w2 hm0 (by omega)).mono ?_)
  rintro e w3 ⟨rfl, hB3⟩
  have B3 := (B1.trans (hB2.mono B1.size)).trans (hB3.mono (B1.trans (hB2.mono B1.size)).size)
  go_wp2_with fail
  (with_reducible refine (HL2.out w3 B3).mono ?_)
  rintro e w4 ⟨rfl, hB4⟩
  have hX4 : Below X.heap.size X w4 := below_trans_same (below_trans_same hX2 hB3) hB4
  have B4 := hwX.trans (hX4.mono hwX.size)
  obtain ⟨⟨p1, p2, p3, p4⟩, p5, p6, p7⟩ := hW.keep hX4
  clear l0 l1 l2 l3
  go_wp2_with fail
  exact bodyPost_ret (v := .tuple #[.agg #[.int .i64 0, .int .i64 0], .int .i64 3]) (by simp [results, Try.results34, go_sem, *]) rfl ⟨rfl, (B4.setCell (by show w.heap.size ≤ w.heap.size + 1; omega) _).setCell (by show w.heap.size ≤ w.heap.size + 1; omega) _⟩
set_option maxRecDepth 100000 in
set_option maxHeartbeats 2000000 in
theorem num_sb (b : Bool) (A B : Option Addr) (n c m d : Nat) (x : Rat) (w : World) (h : Q w b (.slice A n c) (.slice B m d) x) (hm : m ≤ 400000) (hf1 : x.num.natAbs ≤ MaxN) (hf2 : MaxN < x.den) :
    Calls Try.prog 34 #[.agg #[.bool b, .slice A n c, .bool false, .slice B m d]] w fun e w' => e = .returned (.tuple #[.agg #[.int .i64 0, .int .i64 0], .int .i64 3]) ∧ Below w.heap.size w w' := by
  have hm0 := h.low
  have HL1 : Hid (∀ wx, Below w.heap.size w wx → Calls Try.prog 70 #[.agg #[.bool b, .slice A n c]] wx fun e w' => e = .returned (.tuple #[.int .i64 x.num, .bool true]) ∧ Below wx.heap.size wx w') := fun wx hx => by
    have := limited_small b A n c _ wx (h.keep hx).2.1 hf1
    rw [h.sgn] at this
    exact this
  have HL2 : Hid (∀ wx, Below w.heap.size w wx → Calls Try.prog 70 #[.agg #[.bool false, .slice B m d]] wx fun e w' => e = .returned (.tuple #[.int .i64 0, .bool false]) ∧ Below wx.heap.size wx w') := fun wx hx => limited_big false B m d _ wx (h.keep hx).2.2 hm hf2
  clear h hf1 hf2
  go_enter Try.func34, Try.ntmps34
  go_upto_region 1 with fail
  generalize hX : (w.alloc _).alloc _ = X
  have hXX : Below w.heap.size w X ∧ X.cell? ⟨w.heap.size, 0, none⟩ = some (.bool b) ∧ X.cell? ⟨w.heap.size, 1, none⟩ = some (.slice A n c) ∧ X.cell? ⟨w.heap.size, 2, none⟩ = some (.bool false) ∧ X.cell? ⟨w.heap.size, 3, none⟩ = some (.slice B m d) ∧ w.heap.size < X.heap.size ∧ Wr (w.heap.size + 1) 23 X := by
    subst hX
    exact ⟨((Below.refl _ _).alloc (Nat.le_refl _) _).alloc (by simp) _, by simp [go_sem], by simp [go_sem], by simp [go_sem], by simp [go_sem], by simp; omega, Wr.new _ _ _ 23 (by simp)⟩
  obtain ⟨hwX, k0, k1, k2, k3, hz, hW⟩ := hXX
  clear hX
  go_wp2_with fail
  (with_reducible refine (top_any b false A B n c m d X).mono ?_)
  rintro e w1 ⟨rfl, hB1⟩
  have B1 := hwX.trans (hB1.mono hwX.size)
  go_wp2_with fail
  (with_reducible refine (HL1.out w1 B1).mono ?_)
  rintro e w2 ⟨rfl, hB2⟩
  have hX2 : Below X.heap.size X w2 := below_trans_same hB1 hB2
  have l0 := (hX2.cell (p := ⟨w.heap.size, 0, none⟩) hz).trans k0
  have l1 := (hX2.cell (p := ⟨w.heap.size, 1, none⟩) hz).trans k1
  have l2 := (hX2.cell (p := ⟨w.heap.size, 2, none⟩) hz).trans k2
  have l3 := (hX2.cell (p := ⟨w.heap.size, 3, none⟩) hz).trans k3
  clear k0 k1 k2 k3
  go_wp2_with fail
  (with_reducible refine (low_any b A B n c m d w2 hm0 (by omega)).mono ?_)
  rintro e w3 ⟨rfl, hB3⟩
  have B3 := (B1.trans (hB2.mono B1.size)).trans (hB3.mono (B1.trans (hB2.mono B1.size)).size)
  go_wp2_with fail
  (with_reducible refine (HL2.out w3 B3).mono ?_)
  rintro e w4 ⟨rfl, hB4⟩
  have hX4 : Below X.heap.size X w4 := below_trans_same (below_trans_same hX2 hB3) hB4
  have B4 := hwX.trans (hX4.mono hwX.size)
  obtain ⟨⟨p1, p2, p3, p4⟩, p5, p6, p7⟩ := hW.keep hX4
  clear l0 l1 l2 l3
  go_wp2_with fail
  exact bodyPost_ret (v := .tuple #[.agg #[.int .i64 0, .int .i64 0], .int .i64 3]) (by simp [results, Try.results34, go_sem, *]) rfl ⟨rfl, (B4.setCell (by show w.heap.size ≤ w.heap.size + 1; omega) _).setCell (by show w.heap.size ≤ w.heap.size + 1; omega) _⟩
/-- exact.Rat.Num, where the fraction is too large. -/
theorem num_full (b : Bool) (A B : Option Addr) (n c m d : Nat) (x : Rat) (w : World) (h : Q w b (.slice A n c) (.slice B m d) x) (hn : n ≤ 400000) (hm : m ≤ 400000) (hf : ¬ Fits x) :
    Calls Try.prog 34 #[.agg #[.bool b, .slice A n c, .bool false, .slice B m d]] w fun e w' => e = .returned (.tuple #[.agg #[.int .i64 0, .int .i64 0], .int .i64 3]) ∧ Below w.heap.size w w' := by
  by_cases h1 : MaxN < x.num.natAbs
  · by_cases h2 : MaxN < x.den
    · exact num_bb b A B n c m d x w h hn hm h1 h2
    · exact num_bs b A B n c m d x w h hn hm h1 (by omega)
  · exact num_sb b A B n c m d x w h hm (by omega) (by unfold Fits at hf; omega)

end Go.Proofs.Ytfhmhkbjcccejaa
