/- num.Pow: the two boxes of its loop, made in a drawn order. num.Div on any numbers. num.Pow: the ways without products. -/
import Derived.Test.YtfhmhkbjcccejaaGreatDoorZ28
import Derived.Test.YtfhmhkbjcccejaaGreatDoorZ21
import Derived.Test.YtfhmhkbjcccejaaGreatDoorZ30

namespace Go.Proofs.YtfhmhkbjcccejaaGreatDoor
open Go.RowKit

/-- A value that reads as a fraction. -/
def RV (w : World) (q : Value) (x : Rat) : Prop := ∃ A n c B m d, q = .agg #[.bool (decide (x.num < 0)), .slice A n c, .bool false, .slice B m d] ∧ D w (.slice A n c) x.num.natAbs ∧ D w (.slice B m d) x.den
theorem RV.keep {w w' : World} {q : Value} {x : Rat} (h : RV w q x) (hb : Below w.heap.size w w') : RV w' q x := by
  obtain ⟨A, n, c, B, m, d, e, h1, h2⟩ := h
  exact ⟨A, n, c, B, m, d, e, h1.keep hb, h2.keep hb⟩
theorem RV.set {w : World} {q : Value} {x : Rat} (h : RV w q x) {k T : Nat} (hb : Bx w k T) (hT : T ≠ 101) (o : Nat) (u : Value) : RV (w.setCell ⟨k, o, none⟩ u) q x := by
  obtain ⟨A, n, c, B, m, d, e, h1, h2⟩ := h
  exact ⟨A, n, c, B, m, d, e, h1.set hb hT o u, h2.set hb hT o u⟩

/-- A value that points to a box of four cells, from a block on. -/
def PB (base : Nat) (w : World) (p : Value) : Prop := ∃ g, p = .pointer (some ⟨g, 0, none⟩) ∧ base ≤ g ∧ Wr4 g 47 w
theorem PB.keep {base : Nat} {w w' : World} {p : Value} (h : PB base w p) (hb : Below w.heap.size w w') : PB base w' p := by
  obtain ⟨g, e, h1, h2⟩ := h
  exact ⟨g, e, h1, h2.keep hb⟩
theorem PB.new {base : Nat} (w : World) (p q r s : Value) (h : base ≤ w.heap.size) : PB base (w.alloc (.cells #[p, q, r, s] 47)) (.pointer (some ⟨w.heap.size, 0, none⟩)) :=
  ⟨w.heap.size, rfl, h, Wr4.new w p q r s 47 rfl⟩

/-- The store of four cells. -/
def set4 (w : World) (g : Nat) (a b c d : Value) : World := (((w.setCell ⟨g, 0, none⟩ a).setCell ⟨g, 1, none⟩ b).setCell ⟨g, 2, none⟩ c).setCell ⟨g, 3, none⟩ d
theorem Wr4.bx {g T : Nat} {w : World} (h : Wr4 g T w) : Bx w g T := h.2.2.2.2.2
theorem RV.set_4 {w : World} {q : Value} {x : Rat} (h : RV w q x) {g : Nat} (hw : Wr4 g 47 w) (a b c d : Value) : RV (set4 w g a b c d) q x :=
  (((h.set hw.bx (by decide) _ _).set (hw.bx.set _ _ _) (by decide) _ _).set ((hw.bx.set _ _ _).set _ _ _) (by decide) _ _).set (((hw.bx.set _ _ _).set _ _ _).set _ _ _) (by decide) _ _
theorem PB.set_4 {base : Nat} {w : World} {p : Value} (h : PB base w p) {g : Nat} (hw : Wr4 g 47 w) (a b c d : Value) : PB base (set4 w g a b c d) p := by
  obtain ⟨g', e, h1, h2⟩ := h
  refine ⟨g', e, h1, ?_⟩
  by_cases hg : g' = g
  · subst hg
    exact (h2.set a b c d).2
  · exact (((h2.far hg _ _).far hg _ _).far hg _ _).far hg _ _
theorem set4_below {base : Nat} {X w : World} (h : Below base X w) {g : Nat} (hg : base ≤ g) (a b c d : Value) : Below base X (set4 w g a b c d) :=
  (((h.setCell hg _).setCell hg _).setCell hg _).setCell hg _

/-- A box that holds a fraction. -/
def BV (base : Nat) (w : World) (p : Value) (x : Rat) : Prop := ∃ g a b c d, p = .pointer (some ⟨g, 0, none⟩) ∧ base ≤ g ∧ Wr4 g 47 w ∧ B4 g a b c d w ∧ RV w (.agg #[a, b, c, d]) x
theorem Wr4.lt {g T : Nat} {w : World} (h : Wr4 g T w) : g < w.heap.size := by obtain ⟨_, _, _, _, _, cs, fr, hc⟩ := h; exact lt_of_heap hc
theorem BV.keep {base : Nat} {w w' : World} {p : Value} {x : Rat} (h : BV base w p x) (hb : Below w.heap.size w w') : BV base w' p x := by
  obtain ⟨g, a, b, c, d, e, h1, h2, h3, h4⟩ := h
  exact ⟨g, a, b, c, d, e, h1, h2.keep hb, h3.keep h2.lt hb, h4.keep hb⟩
theorem BV.set_4 {base : Nat} {w : World} {p : Value} {x : Rat} (h : BV base w p x) {g : Nat} (hw : Wr4 g 47 w) (hp : p ≠ .pointer (some ⟨g, 0, none⟩)) (a b c d : Value) : BV base (set4 w g a b c d) p x := by
  obtain ⟨g', a', b', c', d', e, h1, h2, h3, h4⟩ := h
  have hg : g' ≠ g := fun h => hp (by rw [e, h])
  exact ⟨g', a', b', c', d', e, h1, (((h2.far hg _ _).far hg _ _).far hg _ _).far hg _ _, (((h3.far hg _ _).far hg _ _).far hg _ _).far hg _ _, h4.set_4 hw a b c d⟩
theorem BV.made {base : Nat} {w : World} {g : Nat} (hg : base ≤ g) (hw : Wr4 g 47 w) {a b c d : Value} {x : Rat} (h : RV w (.agg #[a, b, c, d]) x) : BV base (set4 w g a b c d) (.pointer (some ⟨g, 0, none⟩)) x :=
  ⟨g, a, b, c, d, rfl, hg, (hw.set a b c d).2, (hw.set a b c d).1, h.set_4 hw a b c d⟩

/-- What has come up and what it has made. -/
structure JP (w1 : World) (t l : Int) (y x : Rat) (b : Nat → Bool) (v : Nat → Value) (wx : World) : Prop where
  below : Below w1.heap.size w1 wx
  f0 : b 0 = true → v 38 = .agg #[.int .i64 1, .int .i64 1]
  f1 : b 1 = true → RV wx (v 39) y
  f2 : b 2 = true → v 40 = .agg #[.int .i64 t, .int .i64 l]
  f3 : b 3 = true → RV wx (v 41) x
  f4 : b 4 = true → PB w1.heap.size wx (v 6)
  f5 : b 5 = true → PB w1.heap.size wx (v 7)
  f45 : b 4 = true → b 5 = true → v 6 ≠ v 7
  f6 : b 6 = true → BV w1.heap.size wx (v 6) y
  f7 : b 7 = true → BV w1.heap.size wx (v 7) x
  g6 : b 6 = true → b 4 = true
  g7 : b 7 = true → b 5 = true

theorem JP.keep {w1 : World} {t l : Int} {y x : Rat} {b : Nat → Bool} {v : Nat → Value} {wx wy : World} (h : JP w1 t l y x b v wx) (hb : Below wx.heap.size wx wy) : JP w1 t l y x b v wy where
  below := below_trans_same h.below hb
  f0 := h.f0
  f1 g := (h.f1 g).keep hb
  f2 := h.f2
  f3 g := (h.f3 g).keep hb
  f4 g := (h.f4 g).keep hb
  f5 g := (h.f5 g).keep hb
  f45 := h.f45
  f6 g := (h.f6 g).keep hb
  f7 g := (h.f7 g).keep hb
  g6 := h.g6
  g7 := h.g7

theorem PB.ne {base : Nat} {w : World} {p : Value} (h : PB base w p) : p ≠ .pointer (some ⟨w.heap.size, 0, none⟩) := by
  obtain ⟨g, e, h1, h2⟩ := h
  intro h
  rw [e] at h
  injection h with h
  injection h with h
  injection h with h
  exact Nat.ne_of_lt h2.lt h

section
variable {w1 : World} {t l : Int} {y x : Rat} {b : Nat → Bool} {v : Nat → Value} {wx : World}
theorem JP.start : JP w1 t l y x (fun _ => false) v w1.drew :=
  ⟨Below.drew (Below.refl _ _), Bool.noConfusion, Bool.noConfusion, Bool.noConfusion, Bool.noConfusion, Bool.noConfusion, Bool.noConfusion, Bool.noConfusion, Bool.noConfusion, Bool.noConfusion, Bool.noConfusion, Bool.noConfusion⟩
theorem JP.put0 (h : JP w1 t l y x b v wx) : JP w1 t l y x (updB b 0) (updV v 38 (.agg #[.int .i64 1, .int .i64 1])) wx :=
  ⟨h.below, fun _ => rfl, h.f1, h.f2, h.f3, h.f4, h.f5, h.f45, h.f6, h.f7, h.g6, h.g7⟩
theorem JP.put1 (h : JP w1 t l y x b v wx) {q : Value} (hq : RV wx q y) : JP w1 t l y x (updB b 1) (updV v 39 q) wx :=
  ⟨h.below, h.f0, fun _ => hq, h.f2, h.f3, h.f4, h.f5, h.f45, h.f6, h.f7, h.g6, h.g7⟩
theorem JP.put2 (h : JP w1 t l y x b v wx) : JP w1 t l y x (updB b 2) (updV v 40 (.agg #[.int .i64 t, .int .i64 l])) wx :=
  ⟨h.below, h.f0, h.f1, fun _ => rfl, h.f3, h.f4, h.f5, h.f45, h.f6, h.f7, h.g6, h.g7⟩
theorem JP.put3 (h : JP w1 t l y x b v wx) {q : Value} (hq : RV wx q x) : JP w1 t l y x (updB b 3) (updV v 41 q) wx :=
  ⟨h.below, h.f0, h.f1, h.f2, fun _ => hq, h.f4, h.f5, h.f45, h.f6, h.f7, h.g6, h.g7⟩
theorem JP.put4 (h : JP w1 t l y x b v wx) (h6 : b 4 = false) (p q r s : Value) : JP w1 t l y x (updB b 4) (updV v 6 (.pointer (some ⟨wx.heap.size, 0, none⟩))) (wx.alloc (.cells #[p, q, r, s] 47)) :=
  have k := h.keep (below_alloc wx (.cells #[p, q, r, s] 47))
  ⟨k.below, k.f0, k.f1, k.f2, k.f3, fun _ => PB.new wx p q r s h.below.size, k.f5, fun _ g e => (h.f5 g).ne e.symm, fun g => (by have := h.g6 g; rw [h6] at this; cases this), k.f7, fun _ => rfl, k.g7⟩
theorem JP.put5 (h : JP w1 t l y x b v wx) (h7 : b 5 = false) (p q r s : Value) : JP w1 t l y x (updB b 5) (updV v 7 (.pointer (some ⟨wx.heap.size, 0, none⟩))) (wx.alloc (.cells #[p, q, r, s] 47)) :=
  have k := h.keep (below_alloc wx (.cells #[p, q, r, s] 47))
  ⟨k.below, k.f0, k.f1, k.f2, k.f3, k.f4, fun _ => PB.new wx p q r s h.below.size, fun g _ e => (h.f4 g).ne e, k.f6, fun g => (by have := h.g7 g; rw [h7] at this; cases this), k.g6, fun _ => rfl⟩
theorem JP.put6 (h : JP w1 t l y x b v wx) {g : Nat} {p q r s : Value} (hv : v 6 = .pointer (some ⟨g, 0, none⟩)) (hg : w1.heap.size ≤ g) (hw : Wr4 g 47 wx) (hq : v 39 = .agg #[p, q, r, s]) (h1 : b 1 = true) (h4 : b 4 = true) (h5 : b 5 = true) :
    JP w1 t l y x (updB b 6) v (set4 wx g p q r s) :=
  ⟨set4_below h.below hg _ _ _ _, h.f0, fun k => (h.f1 k).set_4 hw _ _ _ _, h.f2, fun k => (h.f3 k).set_4 hw _ _ _ _, fun k => (h.f4 k).set_4 hw _ _ _ _, fun k => (h.f5 k).set_4 hw _ _ _ _, h.f45,
    fun _ => by rw [hv]; exact BV.made hg hw (by rw [← hq]; exact h.f1 h1), fun k => (h.f7 k).set_4 hw (by rw [← hv]; exact fun e => h.f45 h4 h5 e.symm) _ _ _ _, fun _ => h4, h.g7⟩
theorem JP.put7 (h : JP w1 t l y x b v wx) {g : Nat} {p q r s : Value} (hv : v 7 = .pointer (some ⟨g, 0, none⟩)) (hg : w1.heap.size ≤ g) (hw : Wr4 g 47 wx) (hq : v 41 = .agg #[p, q, r, s]) (h3 : b 3 = true) (h4 : b 4 = true) (h5 : b 5 = true) :
    JP w1 t l y x (updB b 7) v (set4 wx g p q r s) :=
  ⟨set4_below h.below hg _ _ _ _, h.f0, fun k => (h.f1 k).set_4 hw _ _ _ _, h.f2, fun k => (h.f3 k).set_4 hw _ _ _ _, fun k => (h.f4 k).set_4 hw _ _ _ _, fun k => (h.f5 k).set_4 hw _ _ _ _, h.f45,
    fun k => (h.f6 k).set_4 hw (by rw [← hv]; exact fun e => h.f45 h4 h5 e) _ _ _ _, fun _ => by rw [hv]; exact BV.made hg hw (by rw [← hq]; exact h.f3 h3), h.g6, fun _ => h5⟩
end

end Go.Proofs.YtfhmhkbjcccejaaGreatDoor

namespace Go.Proofs.YtfhmhkbjcccejaaGreatDoor
open Go.RowKit

/-- The parts and the error of a quotient. -/
def divT (t l t' l' : Int) : Int × Int × Int := if vld t l && vld t' l' then if (t' == 0) = true then (0, 0, 5) else outT (fr t l / fr t' l') else (0, 0, 1)

end Go.Proofs.YtfhmhkbjcccejaaGreatDoor

namespace Go.Proofs.YtfhmhkbjcccejaaGreatDoor
open Go.RowKit

/-- Two boxes of numbers. -/
theorem boxes2 (w : World) (t l u v : Value) : ∃ X, (w.alloc (.cells #[t, l] 23)).alloc (.cells #[u, v] 23) = X ∧ Below w.heap.size w X ∧ X.heap.size = w.heap.size + 2 ∧
    X.cell? ⟨w.heap.size, 0, none⟩ = some t ∧ X.cell? ⟨w.heap.size, 1, none⟩ = some l ∧ Wr (w.heap.size + 1) 23 X := by
  refine ⟨_, rfl, ((Below.refl _ _).alloc (Nat.le_refl _) _).alloc (by simp) _, by simp, by simp [go_sem], by simp [go_sem], Wr.new _ _ _ 23 (by simp)⟩

set_option maxRecDepth 100000 in
set_option maxHeartbeats 2000000 in
theorem pow_bad (t l n : Int) (w : World) (h : vld t l = false) :
    Calls Tryz.prog 10 #[.agg #[.int .i64 t, .int .i64 l], .int .i64 n] w fun e w' => e = .returned (.tuple #[.agg #[.int .i64 0, .int .i64 0], .int .i64 1]) ∧ Below w.heap.size w w' := by
  have HV : Hid (∀ wx, Calls Tryz.prog 11 #[.agg #[.int .i64 t, .int .i64 l]] wx fun e w' => e = .returned (.bool false) ∧ Below wx.heap.size wx w') := fun wx => by
    have := valid_any t l wx
    rw [h] at this
    exact this
  clear h
  go_enter Tryz.func10, Tryz.ntmps10
  go_upto_region 1 with fail
  obtain ⟨X, hX, hwX, hz, k0, k1, hW⟩ := boxes2 w (.int .i64 t) (.int .i64 l) (.int .i64 0) (.int .i64 0)
  rw [hX]
  clear hX
  have H0 : Hid (w.heap.size < X.heap.size) := (by omega : w.heap.size < X.heap.size)
  clear hz
  go_wp2_with fail
  (with_reducible refine (HV.out X).mono ?_)
  rintro e w1 ⟨rfl, hB1⟩
  have l0 := (hB1.cell (p := ⟨w.heap.size, 0, none⟩) H0.out).trans k0
  have l1 := (hB1.cell (p := ⟨w.heap.size, 1, none⟩) H0.out).trans k1
  have B1 := hwX.trans (hB1.mono hwX.size)
  obtain ⟨⟨c1, c2, c3, c4⟩, c5, c6, c7⟩ := hW.keep hB1
  clear k0 k1
  go_wp2_with fail
  exact bodyPost_ret (v := .tuple #[.agg #[.int .i64 0, .int .i64 0], .int .i64 1]) (by simp [results, Tryz.results10, go_sem, *]) rfl ⟨rfl, (B1.setCell (by show w.heap.size ≤ w.heap.size + 1; omega) _).setCell (by show w.heap.size ≤ w.heap.size + 1; omega) _⟩

set_option maxRecDepth 100000 in
set_option maxHeartbeats 2000000 in
theorem pow_neg (t l n : Int) (w : World) (h : vld t l = true) (g0 : decide (n < 0) = true) :
    Calls Tryz.prog 10 #[.agg #[.int .i64 t, .int .i64 l], .int .i64 n] w fun e w' => e = .returned (.tuple #[.agg #[.int .i64 0, .int .i64 0], .int .i64 6]) ∧ Below w.heap.size w w' := by
  have HV : Hid (∀ wx, Calls Tryz.prog 11 #[.agg #[.int .i64 t, .int .i64 l]] wx fun e w' => e = .returned (.bool true) ∧ Below wx.heap.size wx w') := fun wx => by
    have := valid_any t l wx
    rw [h] at this
    exact this
  clear h
  go_enter Tryz.func10, Tryz.ntmps10
  go_upto_region 1 with fail
  obtain ⟨X, hX, hwX, hz, k0, k1, hW⟩ := boxes2 w (.int .i64 t) (.int .i64 l) (.int .i64 0) (.int .i64 0)
  rw [hX]
  clear hX
  have H0 : Hid (w.heap.size < X.heap.size) := (by omega : w.heap.size < X.heap.size)
  clear hz
  go_wp2_with fail
  (with_reducible refine (HV.out X).mono ?_)
  rintro e w1 ⟨rfl, hB1⟩
  have l0 := (hB1.cell (p := ⟨w.heap.size, 0, none⟩) H0.out).trans k0
  have l1 := (hB1.cell (p := ⟨w.heap.size, 1, none⟩) H0.out).trans k1
  have B1 := hwX.trans (hB1.mono hwX.size)
  obtain ⟨⟨c1, c2, c3, c4⟩, c5, c6, c7⟩ := hW.keep hB1
  clear k0 k1
  go_wp2_with fail
  exact bodyPost_ret (v := .tuple #[.agg #[.int .i64 0, .int .i64 0], .int .i64 6]) (by simp [results, Tryz.results10, go_sem, *]) rfl ⟨rfl, (B1.setCell (by show w.heap.size ≤ w.heap.size + 1; omega) _).setCell (by show w.heap.size ≤ w.heap.size + 1; omega) _⟩

set_option maxRecDepth 100000 in
set_option maxHeartbeats 2000000 in
theorem pow_far (t l n : Int) (w : World) (h : vld t l = true) (g0 : decide (n < 0) = false) (g1 : decide (10000 < n) = true) :
    Calls Tryz.prog 10 #[.agg #[.int .i64 t, .int .i64 l], .int .i64 n] w fun e w' => e = .returned (.tuple #[.agg #[.int .i64 0, .int .i64 0], .int .i64 6]) ∧ Below w.heap.size w w' := by
  have HV : Hid (∀ wx, Calls Tryz.prog 11 #[.agg #[.int .i64 t, .int .i64 l]] wx fun e w' => e = .returned (.bool true) ∧ Below wx.heap.size wx w') := fun wx => by
    have := valid_any t l wx
    rw [h] at this
    exact this
  clear h
  go_enter Tryz.func10, Tryz.ntmps10
  go_upto_region 1 with fail
  obtain ⟨X, hX, hwX, hz, k0, k1, hW⟩ := boxes2 w (.int .i64 t) (.int .i64 l) (.int .i64 0) (.int .i64 0)
  rw [hX]
  clear hX
  have H0 : Hid (w.heap.size < X.heap.size) := (by omega : w.heap.size < X.heap.size)
  clear hz
  go_wp2_with fail
  (with_reducible refine (HV.out X).mono ?_)
  rintro e w1 ⟨rfl, hB1⟩
  have l0 := (hB1.cell (p := ⟨w.heap.size, 0, none⟩) H0.out).trans k0
  have l1 := (hB1.cell (p := ⟨w.heap.size, 1, none⟩) H0.out).trans k1
  have B1 := hwX.trans (hB1.mono hwX.size)
  obtain ⟨⟨c1, c2, c3, c4⟩, c5, c6, c7⟩ := hW.keep hB1
  clear k0 k1
  go_wp2_with fail
  exact bodyPost_ret (v := .tuple #[.agg #[.int .i64 0, .int .i64 0], .int .i64 6]) (by simp [results, Tryz.results10, go_sem, *]) rfl ⟨rfl, (B1.setCell (by show w.heap.size ≤ w.heap.size + 1; omega) _).setCell (by show w.heap.size ≤ w.heap.size + 1; omega) _⟩

set_option maxRecDepth 100000 in
set_option maxHeartbeats 2000000 in
theorem pow_full1 (t l n : Int) (w : World) (h : vld t l = true) (g0 : decide (n < 0) = false) (g1 : decide (10000 < n) = false) (g2 : (l == 1) = false) (g3 : decide (60 < n) = true) :
    Calls Tryz.prog 10 #[.agg #[.int .i64 t, .int .i64 l], .int .i64 n] w fun e w' => e = .returned (.tuple #[.agg #[.int .i64 0, .int .i64 0], .int .i64 3]) ∧ Below w.heap.size w w' := by
  have HV : Hid (∀ wx, Calls Tryz.prog 11 #[.agg #[.int .i64 t, .int .i64 l]] wx fun e w' => e = .returned (.bool true) ∧ Below wx.heap.size wx w') := fun wx => by
    have := valid_any t l wx
    rw [h] at this
    exact this
  clear h
  go_enter Tryz.func10, Tryz.ntmps10
  go_upto_region 1 with fail
  obtain ⟨X, hX, hwX, hz, k0, k1, hW⟩ := boxes2 w (.int .i64 t) (.int .i64 l) (.int .i64 0) (.int .i64 0)
  rw [hX]
  clear hX
  have H0 : Hid (w.heap.size < X.heap.size) := (by omega : w.heap.size < X.heap.size)
  clear hz
  go_wp2_with fail
  (with_reducible refine (HV.out X).mono ?_)
  rintro e w1 ⟨rfl, hB1⟩
  have l0 := (hB1.cell (p := ⟨w.heap.size, 0, none⟩) H0.out).trans k0
  have l1 := (hB1.cell (p := ⟨w.heap.size, 1, none⟩) H0.out).trans k1
  have B1 := hwX.trans (hB1.mono hwX.size)
  obtain ⟨⟨c1, c2, c3, c4⟩, c5, c6, c7⟩ := hW.keep hB1
  clear k0 k1
  go_wp2_with fail
  exact bodyPost_ret (v := .tuple #[.agg #[.int .i64 0, .int .i64 0], .int .i64 3]) (by simp [results, Tryz.results10, go_sem, *]) rfl ⟨rfl, (B1.setCell (by show w.heap.size ≤ w.heap.size + 1; omega) _).setCell (by show w.heap.size ≤ w.heap.size + 1; omega) _⟩

set_option maxRecDepth 100000 in
set_option maxHeartbeats 2000000 in
theorem pow_full2 (t l n : Int) (w : World) (h : vld t l = true) (g0 : decide (n < 0) = false) (g1 : decide (10000 < n) = false) (g2 : (l == 1) = true) (g3 : decide (-1 ≤ t) = false) (g4 : decide (60 < n) = true) :
    Calls Tryz.prog 10 #[.agg #[.int .i64 t, .int .i64 l], .int .i64 n] w fun e w' => e = .returned (.tuple #[.agg #[.int .i64 0, .int .i64 0], .int .i64 3]) ∧ Below w.heap.size w w' := by
  have HV : Hid (∀ wx, Calls Tryz.prog 11 #[.agg #[.int .i64 t, .int .i64 l]] wx fun e w' => e = .returned (.bool true) ∧ Below wx.heap.size wx w') := fun wx => by
    have := valid_any t l wx
    rw [h] at this
    exact this
  clear h
  go_enter Tryz.func10, Tryz.ntmps10
  go_upto_region 1 with fail
  obtain ⟨X, hX, hwX, hz, k0, k1, hW⟩ := boxes2 w (.int .i64 t) (.int .i64 l) (.int .i64 0) (.int .i64 0)
  rw [hX]
  clear hX
  have H0 : Hid (w.heap.size < X.heap.size) := (by omega : w.heap.size < X.heap.size)
  clear hz
  go_wp2_with fail
  (with_reducible refine (HV.out X).mono ?_)
  rintro e w1 ⟨rfl, hB1⟩
  have l0 := (hB1.cell (p := ⟨w.heap.size, 0, none⟩) H0.out).trans k0
  have l1 := (hB1.cell (p := ⟨w.heap.size, 1, none⟩) H0.out).trans k1
  have B1 := hwX.trans (hB1.mono hwX.size)
  obtain ⟨⟨c1, c2, c3, c4⟩, c5, c6, c7⟩ := hW.keep hB1
  clear k0 k1
  go_wp2_with fail
  exact bodyPost_ret (v := .tuple #[.agg #[.int .i64 0, .int .i64 0], .int .i64 3]) (by simp [results, Tryz.results10, go_sem, *]) rfl ⟨rfl, (B1.setCell (by show w.heap.size ≤ w.heap.size + 1; omega) _).setCell (by show w.heap.size ≤ w.heap.size + 1; omega) _⟩

set_option maxRecDepth 100000 in
set_option maxHeartbeats 2000000 in
theorem pow_full3 (t l n : Int) (w : World) (h : vld t l = true) (g0 : decide (n < 0) = false) (g1 : decide (10000 < n) = false) (g2 : (l == 1) = true) (g3 : decide (-1 ≤ t) = true) (g4 : decide (t ≤ 1) = false) (g5 : decide (60 < n) = true) :
    Calls Tryz.prog 10 #[.agg #[.int .i64 t, .int .i64 l], .int .i64 n] w fun e w' => e = .returned (.tuple #[.agg #[.int .i64 0, .int .i64 0], .int .i64 3]) ∧ Below w.heap.size w w' := by
  have HV : Hid (∀ wx, Calls Tryz.prog 11 #[.agg #[.int .i64 t, .int .i64 l]] wx fun e w' => e = .returned (.bool true) ∧ Below wx.heap.size wx w') := fun wx => by
    have := valid_any t l wx
    rw [h] at this
    exact this
  clear h
  go_enter Tryz.func10, Tryz.ntmps10
  go_upto_region 1 with fail
  obtain ⟨X, hX, hwX, hz, k0, k1, hW⟩ := boxes2 w (.int .i64 t) (.int .i64 l) (.int .i64 0) (.int .i64 0)
  rw [hX]
  clear hX
  have H0 : Hid (w.heap.size < X.heap.size) := (by omega : w.heap.size < X.heap.size)
  clear hz
  go_wp2_with fail
  (with_reducible refine (HV.out X).mono ?_)
  rintro e w1 ⟨rfl, hB1⟩
  have l0 := (hB1.cell (p := ⟨w.heap.size, 0, none⟩) H0.out).trans k0
  have l1 := (hB1.cell (p := ⟨w.heap.size, 1, none⟩) H0.out).trans k1
  have B1 := hwX.trans (hB1.mono hwX.size)
  obtain ⟨⟨c1, c2, c3, c4⟩, c5, c6, c7⟩ := hW.keep hB1
  clear k0 k1
  go_wp2_with fail
  exact bodyPost_ret (v := .tuple #[.agg #[.int .i64 0, .int .i64 0], .int .i64 3]) (by simp [results, Tryz.results10, go_sem, *]) rfl ⟨rfl, (B1.setCell (by show w.heap.size ≤ w.heap.size + 1; omega) _).setCell (by show w.heap.size ≤ w.heap.size + 1; omega) _⟩

end Go.Proofs.YtfhmhkbjcccejaaGreatDoor
