/- Fractions of any size in memory, as numbers within the limits. -/
import Derived.Test.YtmfnpipmbpnfbaaGreatDoorF13

set_option maxRecDepth 100000
set_option maxHeartbeats 40000000
namespace Go.Proofs.YtmfnpipmbpnfbaaGreatDoor
open Go.RowKit
def Q (w : World) (b : Bool) (s t : Value) (x : Rat) : Prop := b = decide (x.num < 0) ∧ D w s x.num.natAbs ∧ D w t x.den
theorem Q.keep {w w' : World} {b : Bool} {s t : Value} {x : Rat} (h : Q w b s t x) (hb : Below w.heap.size w w') : Q w' b s t x := ⟨h.1, h.2.1.keep hb, h.2.2.keep hb⟩
theorem Q.sgn {w : World} {b : Bool} {s t : Value} {x : Rat} (h : Q w b s t x) : sgn b x.num.natAbs = x.num := by
  rw [h.1]
  by_cases g : x.num < 0
  · rw [decide_eq_true g]
    show -((x.num.natAbs : Nat) : Int) = x.num
    omega
  · rw [decide_eq_false g]
    show ((x.num.natAbs : Nat) : Int) = x.num
    omega
theorem Q.low {w : World} {b : Bool} {s : Value} {B : Option Addr} {m d : Nat} {x : Rat} (h : Q w b s (.slice B m d) x) : 0 < m := by
  rcases Nat.eq_zero_or_pos m with g | g
  · have := (h.2.2.zero).2 g
    exact absurd this x.den_nz
  · exact g
def Fits (x : Rat) : Prop := x.num.natAbs ≤ MaxN ∧ x.den ≤ MaxN
theorem num_ok (b : Bool) (A B : Option Addr) (n c m d : Nat) (x : Rat) (w : World) (h : Q w b (.slice A n c) (.slice B m d) x) (hm : m ≤ 400000) (hf : Fits x) :
    Calls Tryz.prog 152 #[.agg #[.bool b, .slice A n c, .bool false, .slice B m d]] w fun e w' => e = .returned (.tuple #[.agg #[.int .i64 x.num, .int .i64 (x.den : Int)], .int .i64 0]) ∧ Below w.heap.size w w' := by
  have hm0 := h.low
  have HL1 : Hid (∀ wx, Below w.heap.size w wx → Calls Tryz.prog 188 #[.agg #[.bool b, .slice A n c]] wx fun e w' => e = .returned (.tuple #[.int .i64 x.num, .bool true]) ∧ Below wx.heap.size wx w') := fun wx hx => by
    have := limited_small b A n c _ wx (h.keep hx).2.1 hf.1
    rw [h.sgn] at this
    exact this
  have HL2 : Hid (∀ wx, Below w.heap.size w wx → Calls Tryz.prog 188 #[.agg #[.bool false, .slice B m d]] wx fun e w' => e = .returned (.tuple #[.int .i64 (x.den : Int), .bool true]) ∧ Below wx.heap.size wx w') := fun wx hx => limited_small false B m d _ wx (h.keep hx).2.2 hf.2
  clear h hf
  go_enter Tryz.func152, Tryz.ntmps152
  go_upto_region 1 with fail
  generalize hX : (w.alloc _).alloc _ = X
  have hXX : Below w.heap.size w X ∧ X.cell? ⟨w.heap.size, 0, none⟩ = some (.bool b) ∧ X.cell? ⟨w.heap.size, 1, none⟩ = some (.slice A n c) ∧ X.cell? ⟨w.heap.size, 2, none⟩ = some (.bool false) ∧ X.cell? ⟨w.heap.size, 3, none⟩ = some (.slice B m d) ∧ w.heap.size < X.heap.size ∧ Wr (w.heap.size + 1) 62 X := by
    subst hX
    exact ⟨((Below.refl _ _).alloc (Nat.le_refl _) _).alloc (by simp) _, by simp [go_sem], by simp [go_sem], by simp [go_sem], by simp [go_sem], by simp; omega, Wr.new _ _ _ 62 (by simp)⟩
  obtain ⟨hwX, k0, k1, k2, k3, hz, hW⟩ := hXX
  clear hX
  go_wp2_with fail
  (with_reducible refine (top_any b false A B n c m d X).mono ?_)
  rintro e w1 ⟨rfl, hB1⟩
  have B1 := hwX.trans (hB1.mono hwX.size)
  go_wp2_with fail
  (with_reducible refine (HL1.out w1 B1).mono ?_)
  rintro e w2 ⟨rfl, hB2⟩
  have hX2 : Below X.heap.size X w2 := below_trans_same hB1 hB2
  have l0 := (hX2.cell (p := ⟨w.heap.size, 0, none⟩) hz).trans k0
  have l1 := (hX2.cell (p := ⟨w.heap.size, 1, none⟩) hz).trans k1
  have l2 := (hX2.cell (p := ⟨w.heap.size, 2, none⟩) hz).trans k2
  have l3 := (hX2.cell (p := ⟨w.heap.size, 3, none⟩) hz).trans k3
  clear k0 k1 k2 k3
  go_wp2_with fail
  (with_reducible refine (low_any b A B n c m d w2 hm0 (by omega)).mono ?_)
  rintro e w3 ⟨rfl, hB3⟩
  have B3 := (B1.trans (hB2.mono B1.size)).trans (hB3.mono (B1.trans (hB2.mono B1.size)).size)
  go_wp2_with fail
  (with_reducible refine (HL2.out w3 B3).mono ?_)
  rintro e w4 ⟨rfl, hB4⟩
  have hX4 : Below X.heap.size X w4 := below_trans_same (below_trans_same hX2 hB3) hB4
  have B4 := hwX.trans (hX4.mono hwX.size)
  obtain ⟨⟨p1, p2, p3, p4⟩, p5, p6, p7⟩ := hW.keep hX4
  clear l0 l1 l2 l3
  go_wp2_with fail
  exact bodyPost_ret (v := .tuple #[.agg #[.int .i64 x.num, .int .i64 (x.den : Int)], .int .i64 0]) (by simp [results, Tryz.results152, go_sem, *]) rfl ⟨rfl, (B4.setCell (by show w.heap.size ≤ w.heap.size + 1; omega) _).setCell (by show w.heap.size ≤ w.heap.size + 1; omega) _⟩
theorem num_bb (b : Bool) (A B : Option Addr) (n c m d : Nat) (x : Rat) (w : World) (h : Q w b (.slice A n c) (.slice B m d) x) (hn : n ≤ 400000) (hm : m ≤ 400000) (hf1 : MaxN < x.num.natAbs) (hf2 : MaxN < x.den) :
    Calls Tryz.prog 152 #[.agg #[.bool b, .slice A n c, .bool false, .slice B m d]] w fun e w' => e = .returned (.tuple #[.agg #[.int .i64 0, .int .i64 0], .int .i64 3]) ∧ Below w.heap.size w w' := by
  have hm0 := h.low
  have HL1 : Hid (∀ wx, Below w.heap.size w wx → Calls Tryz.prog 188 #[.agg #[.bool b, .slice A n c]] wx fun e w' => e = .returned (.tuple #[.int .i64 0, .bool false]) ∧ Below wx.heap.size wx w') := fun wx hx => limited_big b A n c _ wx (h.keep hx).2.1 hn hf1
  have HL2 : Hid (∀ wx, Below w.heap.size w wx → Calls Tryz.prog 188 #[.agg #[.bool false, .slice B m d]] wx fun e w' => e = .returned (.tuple #[.int .i64 0, .bool false]) ∧ Below wx.heap.size wx w') := fun wx hx => limited_big false B m d _ wx (h.keep hx).2.2 hm hf2
  clear h hf1 hf2
  go_enter Tryz.func152, Tryz.ntmps152
  go_upto_region 1 with fail
  generalize hX : (w.alloc _).alloc _ = X
  have hXX : Below w.heap.size w X ∧ X.cell? ⟨w.heap.size, 0, none⟩ = some (.bool b) ∧ X.cell? ⟨w.heap.size, 1, none⟩ = some (.slice A n c) ∧ X.cell? ⟨w.heap.size, 2, none⟩ = some (.bool false) ∧ X.cell? ⟨w.heap.size, 3, none⟩ = some (.slice B m d) ∧ w.heap.size < X.heap.size ∧ Wr (w.heap.size + 1) 62 X := by
    subst hX
    exact ⟨((Below.refl _ _).alloc (Nat.le_refl _) _).alloc (by simp) _, by simp [go_sem], by simp [go_sem], by simp [go_sem], by simp [go_sem], by simp; omega, Wr.new _ _ _ 62 (by simp)⟩
  obtain ⟨hwX, k0, k1, k2, k3, hz, hW⟩ := hXX
  clear hX
  go_wp2_with fail
  (with_reducible refine (top_any b false A B n c m d X).mono ?_)
  rintro e w1 ⟨rfl, hB1⟩
  have B1 := hwX.trans (hB1.mono hwX.size)
  go_wp2_with fail
  (with_reducible refine (HL1.out w1 B1).mono ?_)
  rintro e w2 ⟨rfl, hB2⟩
  have hX2 : Below X.heap.size X w2 := below_trans_same hB1 hB2
  have l0 := (hX2.cell (p := ⟨w.heap.size, 0, none⟩) hz).trans k0
  have l1 := (hX2.cell (p := ⟨w.heap.size, 1, none⟩) hz).trans k1
  have l2 := (hX2.cell (p := ⟨w.heap.size, 2, none⟩) hz).trans k2
  have l3 := (hX2.cell (p := ⟨w.heap.size, 3, none⟩) hz).trans k3
  clear k0 k1 k2 k3
  go_wp2_with fail
  (with_reducible refine (low_any b A B n c m d w2 hm0 (by omega)).mono ?_)
  rintro e w3 ⟨rfl, hB3⟩
  have B3 := (B1.trans (hB2.mono B1.size)).trans (hB3.mono (B1.trans (hB2.mono B1.size)).size)
  go_wp2_with fail
  (with_reducible refine (HL2.out w3 B3).mono ?_)
  rintro e w4 ⟨rfl, hB4⟩
  have hX4 : Below X.heap.size X w4 := below_trans_same (below_trans_same hX2 hB3) hB4
  have B4 := hwX.trans (hX4.mono hwX.size)
  obtain ⟨⟨p1, p2, p3, p4⟩, p5, p6, p7⟩ := hW.keep hX4
  clear l0 l1 l2 l3
  go_wp2_with fail
  exact bodyPost_ret (v := .tuple #[.agg #[.int .i64 0, .int .i64 0], .int .i64 3]) (by simp [results, Tryz.results152, go_sem, *]) rfl ⟨rfl, (B4.setCell (by show w.heap.size ≤ w.heap.size + 1; omega) _).setCell (by show w.heap.size ≤ w.heap.size + 1; omega) _⟩
theorem num_bs (b : Bool) (A B : Option Addr) (n c m d : Nat) (x : Rat) (w : World) (h : Q w b (.slice A n c) (.slice B m d) x) (hn : n ≤ 400000) (hm : m ≤ 400000) (hf1 : MaxN < x.num.natAbs) (hf2 : x.den ≤ MaxN) :
    Calls Tryz.prog 152 #[.agg #[.bool b, .slice A n c, .bool false, .slice B m d]] w fun e w' => e = .returned (.tuple #[.agg #[.int .i64 0, .int .i64 0], .int .i64 3]) ∧ Below w.heap.size w w' := by
  have hm0 := h.low
  have HL1 : Hid (∀ wx, Below w.heap.size w wx → Calls Tryz.prog 188 #[.agg #[.bool b, .slice A n c]] wx fun e w' => e = .returned (.tuple #[.int .i64 0, .bool false]) ∧ Below wx.heap.size wx w') := fun wx hx => limited_big b A n c _ wx (h.keep hx).2.1 hn hf1
  have HL2 : Hid (∀ wx, Below w.heap.size w wx → Calls Tryz.prog 188 #[.agg #[.bool false, .slice B m d]] wx fun e w' => e = .returned (.tuple #[.int .i64 (x.den : Int), .bool true]) ∧ Below wx.heap.size wx w') := fun wx hx => limited_small false B m d _ wx (h.keep hx).2.2 hf2
  clear h hf1 hf2
  go_enter Tryz.func152, Tryz.ntmps152
  go_upto_region 1 with fail
  generalize hX : (w.alloc _).alloc _ = X
  have hXX : Below w.heap.size w X ∧ X.cell? ⟨w.heap.size, 0, none⟩ = some (.bool b) ∧ X.cell? ⟨w.heap.size, 1, none⟩ = some (.slice A n c) ∧ X.cell? ⟨w.heap.size, 2, none⟩ = some (.bool false) ∧ X.cell? ⟨w.heap.size, 3, none⟩ = some (.slice B m d) ∧ w.heap.size < X.heap.size ∧ Wr (w.heap.size + 1) 62 X := by
    subst hX
    exact ⟨((Below.refl _ _).alloc (Nat.le_refl _) _).alloc (by simp) _, by simp [go_sem], by simp [go_sem], by simp [go_sem], by simp [go_sem], by simp; omega, Wr.new _ _ _ 62 (by simp)⟩
  obtain ⟨hwX, k0, k1, k2, k3, hz, hW⟩ := hXX
  clear hX
  go_wp2_with fail
  (with_reducible refine (top_any b false A B n c m d X).mono ?_)
  rintro e w1 ⟨rfl, hB1⟩
  have B1 := hwX.trans (hB1.mono hwX.size)
  go_wp2_with fail
  (with_reducible refine (HL1.out w1 B1).mono ?_)
  rintro e w2 ⟨rfl, hB2⟩
  have hX2 : Below X.heap.size X w2 := below_trans_same hB1 hB2
  have l0 := (hX2.cell (p := ⟨w.heap.size, 0, none⟩) hz).trans k0
  have l1 := (hX2.cell (p := ⟨w.heap.size, 1, none⟩) hz).trans k1
  have l2 := (hX2.cell (p := ⟨w.heap.size, 2, none⟩) hz).trans k2
  have l3 := (hX2.cell (p := ⟨w.heap.size, 3, none⟩) hz).trans k3
  clear k0 k1 k2 k3
  go_wp2_with fail
  (with_reducible refine (low_any b A B n c m d w2 hm0 (by omega)).mono ?_)
  rintro e w3 ⟨rfl, hB3⟩
  have B3 := (B1.trans (hB2.mono B1.size)).trans (hB3.mono (B1.trans (hB2.mono B1.size)).size)
  go_wp2_with fail
  (with_reducible refine (HL2.out w3 B3).mono ?_)
  rintro e w4 ⟨rfl, hB4⟩
  have hX4 : Below X.heap.size X w4 := below_trans_same (below_trans_same hX2 hB3) hB4
  have B4 := hwX.trans (hX4.mono hwX.size)
  obtain ⟨⟨p1, p2, p3, p4⟩, p5, p6, p7⟩ := hW.keep hX4
  clear l0 l1 l2 l3
  go_wp2_with fail
  exact bodyPost_ret (v := .tuple #[.agg #[.int .i64 0, .int .i64 0], .int .i64 3]) (by simp [results, Tryz.results152, go_sem, *]) rfl ⟨rfl, (B4.setCell (by show w.heap.size ≤ w.heap.size + 1; omega) _).setCell (by show w.heap.size ≤ w.heap.size + 1; omega) _⟩
theorem num_sb (b : Bool) (A B : Option Addr) (n c m d : Nat) (x : Rat) (w : World) (h : Q w b (.slice A n c) (.slice B m d) x) (hm : m ≤ 400000) (hf1 : x.num.natAbs ≤ MaxN) (hf2 : MaxN < x.den) :
    Calls Tryz.prog 152 #[.agg #[.bool b, .slice A n c, .bool false, .slice B m d]] w fun e w' => e = .returned (.tuple #[.agg #[.int .i64 0, .int .i64 0], .int .i64 3]) ∧ Below w.heap.size w w' := by
  have hm0 := h.low
  have HL1 : Hid (∀ wx, Below w.heap.size w wx → Calls Tryz.prog 188 #[.agg #[.bool b, .slice A n c]] wx fun e w' => e = .returned (.tuple #[.int .i64 x.num, .bool true]) ∧ Below wx.heap.size wx w') := fun wx hx => by
    have := limited_small b A n c _ wx (h.keep hx).2.1 hf1
    rw [h.sgn] at this
    exact this
  have HL2 : Hid (∀ wx, Below w.heap.size w wx → Calls Tryz.prog 188 #[.agg #[.bool false, .slice B m d]] wx fun e w' => e = .returned (.tuple #[.int .i64 0, .bool false]) ∧ Below wx.heap.size wx w') := fun wx hx => limited_big false B m d _ wx (h.keep hx).2.2 hm hf2
  clear h hf1 hf2
  go_enter Tryz.func152, Tryz.ntmps152
  go_upto_region 1 with fail
  generalize hX : (w.alloc _).alloc _ = X
  have hXX : Below w.heap.size w X ∧ X.cell? ⟨w.heap.size, 0, none⟩ = some (.bool b) ∧ X.cell? ⟨w.heap.size, 1, none⟩ = some (.slice A n c) ∧ X.cell? ⟨w.heap.size, 2, none⟩ = some (.bool false) ∧ X.cell? ⟨w.heap.size, 3, none⟩ = some (.slice B m d) ∧ w.heap.size < X.heap.size ∧ Wr (w.heap.size + 1) 62 X := by
    subst hX
    exact ⟨((Below.refl _ _).alloc (Nat.le_refl _) _).alloc (by simp) _, by simp [go_sem], by simp [go_sem], by simp [go_sem], by simp [go_sem], by simp; omega, Wr.new _ _ _ 62 (by simp)⟩
  obtain ⟨hwX, k0, k1, k2, k3, hz, hW⟩ := hXX
  clear hX
  go_wp2_with fail
  (with_reducible refine (top_any b false A B n c m d X).mono ?_)
  rintro e w1 ⟨rfl, hB1⟩
  have B1 := hwX.trans (hB1.mono hwX.size)
  go_wp2_with fail
  (with_reducible refine (HL1.out w1 B1).mono ?_)
  rintro e w2 ⟨rfl, hB2⟩
  have hX2 : Below X.heap.size X w2 := below_trans_same hB1 hB2
  have l0 := (hX2.cell (p := ⟨w.heap.size, 0, none⟩) hz).trans k0
  have l1 := (hX2.cell (p := ⟨w.heap.size, 1, none⟩) hz).trans k1
  have l2 := (hX2.cell (p := ⟨w.heap.size, 2, none⟩) hz).trans k2
  have l3 := (hX2.cell (p := ⟨w.heap.size, 3, none⟩) hz).trans k3
  clear k0 k1 k2 k3
  go_wp2_with fail
  (with_reducible refine (low_any b A B n c m d w2 hm0 (by omega)).mono ?_)
  rintro e w3 ⟨rfl, hB3⟩
  have B3 := (B1.trans (hB2.mono B1.size)).trans (hB3.mono (B1.trans (hB2.mono B1.size)).size)
  go_wp2_with fail
  (with_reducible refine (HL2.out w3 B3).mono ?_)
  rintro e w4 ⟨rfl, hB4⟩
  have hX4 : Below X.heap.size X w4 := below_trans_same (below_trans_same hX2 hB3) hB4
  have B4 := hwX.trans (hX4.mono hwX.size)
  obtain ⟨⟨p1, p2, p3, p4⟩, p5, p6, p7⟩ := hW.keep hX4
  clear l0 l1 l2 l3
  go_wp2_with fail
  exact bodyPost_ret (v := .tuple #[.agg #[.int .i64 0, .int .i64 0], .int .i64 3]) (by simp [results, Tryz.results152, go_sem, *]) rfl ⟨rfl, (B4.setCell (by show w.heap.size ≤ w.heap.size + 1; omega) _).setCell (by show w.heap.size ≤ w.heap.size + 1; omega) _⟩
theorem num_full (b : Bool) (A B : Option Addr) (n c m d : Nat) (x : Rat) (w : World) (h : Q w b (.slice A n c) (.slice B m d) x) (hn : n ≤ 400000) (hm : m ≤ 400000) (hf : ¬ Fits x) :
    Calls Tryz.prog 152 #[.agg #[.bool b, .slice A n c, .bool false, .slice B m d]] w fun e w' => e = .returned (.tuple #[.agg #[.int .i64 0, .int .i64 0], .int .i64 3]) ∧ Below w.heap.size w w' := by
  by_cases h1 : MaxN < x.num.natAbs
  · by_cases h2 : MaxN < x.den
    · exact num_bb b A B n c m d x w h hn hm h1 h2
    · exact num_bs b A B n c m d x w h hn hm h1 (by omega)
  · exact num_sb b A B n c m d x w h hm (by omega) (by unfold Fits at hf; omega)
theorem stepB {X wb w' : World} (h : Below X.heap.size X wb) (k : Below wb.heap.size wb w') : Below X.heap.size X w' := below_trans_same h k
def Wr4 (g T : Nat) (w' : World) : Prop := (∃ p q r s, w'.cell? ⟨g, 0, none⟩ = some p ∧ w'.cell? ⟨g, 1, none⟩ = some q ∧ w'.cell? ⟨g, 2, none⟩ = some r ∧ w'.cell? ⟨g, 3, none⟩ = some s) ∧ w'.frozen? ⟨g, 0, none⟩ = false ∧ w'.frozen? ⟨g, 1, none⟩ = false ∧ w'.frozen? ⟨g, 2, none⟩ = false ∧ w'.frozen? ⟨g, 3, none⟩ = false ∧ Bx w' g T
theorem Wr4.keep {g T : Nat} {X w1 : World} (h : Wr4 g T X) (hB : Below X.heap.size X w1) : Wr4 g T w1 := by
  obtain ⟨⟨p, q, r, s, h1, h2, h3, h4⟩, f1, f2, f3, f4, h5⟩ := h
  obtain ⟨cs, fr, hc⟩ := h5
  have hz := lt_of_heap hc
  exact ⟨⟨p, q, r, s, (hB.cell (p := ⟨g, 0, none⟩) hz).trans h1, (hB.cell (p := ⟨g, 1, none⟩) hz).trans h2, (hB.cell (p := ⟨g, 2, none⟩) hz).trans h3, (hB.cell (p := ⟨g, 3, none⟩) hz).trans h4⟩,
    (hB.frozen (p := ⟨g, 0, none⟩) hz).trans f1, (hB.frozen (p := ⟨g, 1, none⟩) hz).trans f2, (hB.frozen (p := ⟨g, 2, none⟩) hz).trans f3, (hB.frozen (p := ⟨g, 3, none⟩) hz).trans f4, Bx.keep ⟨cs, fr, hc⟩ hB⟩
theorem Wr4.new (w : World) (p q r s : Value) (T : Nat) {g : Nat} (hg : g = w.heap.size) : Wr4 g T (w.alloc (.cells #[p, q, r, s] T)) := by
  subst hg
  refine ⟨⟨p, q, r, s, ?_, ?_, ?_, ?_⟩, ?_, ?_, ?_, ?_, Bx.new w _ T⟩ <;> simp [go_sem]
theorem retR_box {x : Rat} {A B : Option Addr} {n c m d g : Nat} {w w1 wf : World} (hD : D w1 (.slice A n c) x.num.natAbs) (hD' : D w1 (.slice B m d) x.den) (hx : Bx w1 g 185) (hB : Below w.heap.size w w1) (hg : w.heap.size ≤ g)
    (hw : Drn ((((w1.setCell ⟨g, 0, none⟩ (.bool (decide (x.num < 0)))).setCell ⟨g, 1, none⟩ (.slice A n c)).setCell ⟨g, 2, none⟩ (.bool false)).setCell ⟨g, 3, none⟩ (.slice B m d)) wf) :
    RetR x w (.returned (.agg #[.bool (decide (x.num < 0)), .slice A n c, .bool false, .slice B m d])) wf := by
  have k1 : ∀ {v y}, D w1 v y → D wf v y := fun h => hw.d ((((h.set hx (by decide) _ _).set (hx.set _ _ _) (by decide) _ _).set ((hx.set _ _ _).set _ _ _) (by decide) _ _).set (((hx.set _ _ _).set _ _ _).set _ _ _) (by decide) _ _)
  exact ⟨A, n, c, B, m, d, rfl, k1 hD, k1 hD', ((((hB.setCell hg _).setCell hg _).setCell hg _).setCell hg _).trans (hw.below _)⟩
theorem of_any (x : Rat) (w : World) (h1 : -9223372036854775808 ≤ x.num) (h2 : x.num ≤ 9223372036854775807) (h3 : x.den ≤ 9223372036854775807) :
    Calls Tryz.prog 184 #[.agg #[.int .i64 x.num, .int .i64 (x.den : Int)]] w (RetR x w) := by
  have HW1 := Lib.hid (fun wx => whole_any x.num wx h1 h2)
  have HW2 := Lib.hid (fun wx => whole_any (x.den : Int) wx (by omega) (by omega))
  have HZ : Hid (decide ((x.den : Int) < 0) = false) := by
    show _ = false
    simp
  clear h1 h2 h3
  go_enter Tryz.func184, Tryz.ntmps184
  go_upto_region 1 with fail
  generalize hX : (w.alloc _).alloc _ = X
  have hXX : Below w.heap.size w X ∧ X.cell? ⟨w.heap.size, 0, none⟩ = some (.int .i64 x.num) ∧ X.cell? ⟨w.heap.size, 1, none⟩ = some (.int .i64 (x.den : Int)) ∧ w.heap.size < X.heap.size ∧ Wr4 (w.heap.size + 1) 185 X := by
    subst hX
    exact ⟨((Below.refl _ _).alloc (Nat.le_refl _) _).alloc (by simp) _, by simp [go_sem], by simp [go_sem], by simp; omega, Wr4.new _ _ _ _ _ 185 (by simp)⟩
  obtain ⟨hwX, k0, k1, hz, hW⟩ := hXX
  clear hX
  go_region_held3 (fun w' => w'.cell? ⟨w.heap.size, 0, none⟩ = some (.int .i64 x.num) ∧ w'.cell? ⟨w.heap.size, 1, none⟩ = some (.int .i64 (x.den : Int))) (simp [go_sem, *])
    (first
      | (go_at_call 212; (with_reducible refine (HW1.out _).mono ?_); rintro e w1 ⟨A, n, c, rfl, hD1, hB1⟩; (have R1 : Below X.heap.size X w1 := by first | exact hB1 | exact below_undrew' hB1); have C1 := (bcell R1).1)
      | (go_at_call 212; (with_reducible refine (HW2.out _).mono ?_); rintro e w2 ⟨B, m, d, rfl, hD2, hB2⟩; (have R2 : Below w1.heap.size w1 w2 := by first | exact hB2 | exact below_undrew' hB2); have RX := stepB R1 R2; have C2 := (bcell RX).1; have hD1' := hD1.keep R2; obtain ⟨⟨p1, p2, p3, p4, p5, p6, p7, p8⟩, q1, q2, q3, q4, q5⟩ := hW.keep RX))
  all_goals go_wp2_with fail
  have hD2' : D w2 (.slice B m d) x.den := hD2
  exact bodyPost_ret (v := .agg #[.bool (decide (x.num < 0)), .slice A n c, .bool false, .slice B m d]) (by simp [results, Tryz.results184, go_sem, *]) rfl (retR_box hD1' hD2' q5 (hwX.trans (RX.mono hwX.size)) (by omega) (by simp only [decide_eq_false (show ¬ ((x.den : Int) < 0) by omega)]; first | exact ⟨0, rfl⟩ | exact ⟨1, rfl⟩ | exact ⟨2, rfl⟩))
end Go.Proofs.YtmfnpipmbpnfbaaGreatDoor
