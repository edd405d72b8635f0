/- Exact quotients of integers of any size in memory. -/
import Derived.Test.YtfhmhkbjcccejaaMInt4
import Derived.Test.YtfhmhkbjcccejaaMDivI
import Derived.Deep.DeepCutAuto

namespace Go.Proofs.Ytfhmhkbjcccejaa
open Go.RowKit

/-- A divisor of one digit 1. -/
theorem one_digit {w : World} {B : Option Addr} {m d y : Nat} (h : D w (.slice B m d) y) : (y = 1 ↔ m = 1 ∧ ∃ b off, B = some ⟨b, off, none⟩ ∧ w.cell? ⟨b, off, none⟩ = some (.int .u32 1)) := by
  obtain ⟨f, h1, h2, h3, h4, h5⟩ := h.open_
  constructor
  · intro e
    have hm : m = 1 := by
      have hle : m ≤ 1 := len_of_lt h3 (by rw [h4, e]; show 1 < W ^ 1; rw [W_eq]; omega)
      have h0 : m ≠ 0 := by rintro rfl; rw [V_zero] at h4; omega
      omega
    subst hm
    obtain ⟨b, off, e1, e2, e3⟩ := h5 (by omega)
    rw [V_one] at h4
    have := e3 0 (by omega)
    rw [Nat.add_zero, h4, e] at this
    exact ⟨rfl, b, off, e1, this⟩
  · rintro ⟨rfl, b, off, rfl, hc⟩
    obtain ⟨b', off', e1, e2, e3⟩ := h5 (by omega)
    have := e3 0 (by omega)
    injection e1 with e1
    injection e1 with e1 e1'
    subst e1 e1'
    rw [Nat.add_zero, hc] at this
    injection this with this
    injection this with _ this
    rw [V_one] at h4
    omega

set_option maxRecDepth 100000 in
set_option maxHeartbeats 2000000 in
theorem over_one (b1 : Bool) (A B : Option Addr) (n m c d x : Nat) (w : World) (h1 : D w (.slice A n c) x) (h2 : D w (.slice B m d) 1) (hb : b1 = decide (sgn b1 x < 0)) :
    Calls Try.prog 67 #[.agg #[.bool b1, .slice A n c], .agg #[.bool false, .slice B m d]] w (RetJ (sgn b1 x) w) := by
  obtain ⟨rfl, b, off, rfl, hc⟩ := (one_digit h2).1 rfl
  have hlt := World.block_lt_of_cell? w _ hc
  have HB := Lib.hid hb
  have HD : Hid (∀ wx, Below w.heap.size w wx → D wx (.slice A n c) (sgn b1 x).natAbs) := fun wx hx => by rw [sgn_abs]; exact h1.keep hx
  clear h1 h2 hb
  go_enter Try.func67, Try.ntmps67
  have hcX : ∀ X, Below w.heap.size w X → X.cell? ⟨b, off, none⟩ = some (.int .u32 1) := fun X hX => (hX.cell (p := ⟨b, off, none⟩) hlt).trans hc
  have HCX := Lib.hid hcX
  clear hcX hc
  go_upto_region 1 with fail
  generalize hX : ((w.alloc _).alloc _).alloc _ = X
  have hXX := frame3 w (.bool b1) (.slice A n c) (.bool false) (.slice (some ⟨b, off, none⟩) 1 d) (.bool false) (.slice none 0 0)
  rw [hX] at hXX
  obtain ⟨hwX, hsX, hW, hFr⟩ := hXX
  have hcX := HCX.out X hwX
  obtain ⟨i0, i1, i2, i3⟩ := hFr.out
  have HWr := Lib.hid hW
  obtain ⟨⟨p1, p2, p3, p4⟩, p5, p6, p7⟩ := hW
  clear hX hsX
  go_wp2_with fail
  exact bodyPost_ret (v := .agg #[.bool b1, .slice A n c]) (by simp [results, Try.results67, go_sem, *]) rfl (retJ_box HB.out (HD.out X hwX) p7 hwX (by omega))

set_option maxRecDepth 100000 in
set_option maxHeartbeats 2000000 in
theorem over_div (b1 : Bool) (A B : Option Addr) (n m c d x y : Nat) (w : World) (h1 : D w (.slice A n c) x) (h2 : D w (.slice B m d) y) (hn : n ≤ 400000) (hy : 0 < y) (hm : m ≠ 1) :
    Calls Try.prog 67 #[.agg #[.bool b1, .slice A n c], .agg #[.bool false, .slice B m d]] w (RetJ (sgn b1 (x / y)) w) := by
  have HDV : Hid (∀ X, Below w.heap.size w X → Calls Try.prog 86 #[.agg #[.bool b1, .slice A n c], .agg #[.bool false, .slice B m d]] X (RetJJ (sgn b1 (x / y)) (sgn b1 (x % y)) X)) := fun X hX => by
    have := divideI_any b1 false A B n m c d x y X (h1.keep hX) (h2.keep hX) (by omega) hy
    have e : (!b1 == false) = b1 := by cases b1 <;> rfl
    rw [e] at this
    exact this
  have hmb : ((m : Int) == 1) = false := by rw [beq_eq_false_iff_ne]; omega
  clear h1 h2 hm
  go_enter Try.func67, Try.ntmps67
  go_upto_region 1 with fail
  generalize hX : ((w.alloc _).alloc _).alloc _ = X
  have hXX := frame3 w (.bool b1) (.slice A n c) (.bool false) (.slice B m d) (.bool false) (.slice none 0 0)
  rw [hX] at hXX
  obtain ⟨hwX, hsX, hW, hFr⟩ := hXX
  obtain ⟨i0, i1, i2, i3⟩ := hFr.out
  have HWr := Lib.hid hW
  have HSX := Lib.hid hsX
  clear hX hsX hW
  go_wp2_with fail
  (with_reducible refine (HDV.out X hwX).mono ?_)
  rintro e w1 ⟨Aq, nq, cq, Ar, nr, cr, rfl, hDq, hDr, hB⟩
  have hW1 := HWr.out.keep hB
  have HW1 := Lib.hid hW1
  have hw1 := hwX.trans (hB.mono hwX.size)
  clear i0 i1 i2 i3 hW1
  go_upto_region 4 with fail
  generalize hY : (w1.alloc _).alloc _ = Y
  have hYY : Below w1.heap.size w1 Y ∧ Y.cell? ⟨w1.heap.size, 0, none⟩ = some (.bool (decide (sgn b1 (x / y) < 0))) ∧ Y.cell? ⟨w1.heap.size, 1, none⟩ = some (.slice Aq nq cq) := by
    subst hY
    exact ⟨((Below.refl _ _).alloc (Nat.le_refl _) _).alloc (by simp) _, by simp [go_sem], by simp [go_sem]⟩
  obtain ⟨hbY, y0, y1⟩ := hYY
  clear hY
  obtain ⟨⟨p1, p2, p3, p4⟩, p5, p6, p7⟩ := HW1.out.keep hbY
  have hDY := hDq.keep hbY
  have hwY := hw1.trans (hbY.mono hw1.size)
  go_wp2_with fail
  exact bodyPost_ret (v := .agg #[.bool (decide (sgn b1 (x / y) < 0)), .slice Aq nq cq]) (by simp [results, Try.results67, go_sem, *]) rfl (retJ_box rfl hDY p7 hwY (by omega))

set_option maxRecDepth 100000 in
set_option maxHeartbeats 2000000 in
theorem over_div1 (b1 : Bool) (A : Option Addr) (b off v n c d x y : Nat) (w : World) (h1 : D w (.slice A n c) x) (h2 : D w (.slice (some ⟨b, off, none⟩) 1 d) y) (hn : n ≤ 400000) (hy : 0 < y) (hc : w.cell? ⟨b, off, none⟩ = some (.int .u32 (v : Int))) (hv : v ≠ 1) :
    Calls Try.prog 67 #[.agg #[.bool b1, .slice A n c], .agg #[.bool false, .slice (some ⟨b, off, none⟩) 1 d]] w (RetJ (sgn b1 (x / y)) w) := by
  have HDV : Hid (∀ X, Below w.heap.size w X → Calls Try.prog 86 #[.agg #[.bool b1, .slice A n c], .agg #[.bool false, .slice (some ⟨b, off, none⟩) 1 d]] X (RetJJ (sgn b1 (x / y)) (sgn b1 (x % y)) X)) := fun X hX => by
    have := divideI_any b1 false A _ n 1 c d x y X (h1.keep hX) (h2.keep hX) (by omega) hy
    have e : (!b1 == false) = b1 := by cases b1 <;> rfl
    rw [e] at this
    exact this
  have hvb : ((v : Int) == 1) = false := by rw [beq_eq_false_iff_ne]; omega
  have hlt := World.block_lt_of_cell? w _ hc
  have HCX : Hid (∀ X, Below w.heap.size w X → X.cell? ⟨b, off, none⟩ = some (.int .u32 (v : Int))) := fun X hX => (hX.cell (p := ⟨b, off, none⟩) hlt).trans hc
  clear h1 h2 hv hc
  go_enter Try.func67, Try.ntmps67
  go_upto_region 1 with fail
  generalize hX : ((w.alloc _).alloc _).alloc _ = X
  have hXX := frame3 w (.bool b1) (.slice A n c) (.bool false) (.slice (some ⟨b, off, none⟩) 1 d) (.bool false) (.slice none 0 0)
  rw [hX] at hXX
  obtain ⟨hwX, hsX, hW, hFr⟩ := hXX
  have hcX := HCX.out X hwX
  obtain ⟨i0, i1, i2, i3⟩ := hFr.out
  have HWr := Lib.hid hW
  have HSX := Lib.hid hsX
  clear hX hsX hW
  go_wp2_with fail
  (with_reducible refine (HDV.out X hwX).mono ?_)
  rintro e w1 ⟨Aq, nq, cq, Ar, nr, cr, rfl, hDq, hDr, hB⟩
  have hW1 := HWr.out.keep hB
  have HW1 := Lib.hid hW1
  have hw1 := hwX.trans (hB.mono hwX.size)
  clear i0 i1 i2 i3 hW1 hcX
  go_upto_region 4 with fail
  generalize hY : (w1.alloc _).alloc _ = Y
  have hYY : Below w1.heap.size w1 Y ∧ Y.cell? ⟨w1.heap.size, 0, none⟩ = some (.bool (decide (sgn b1 (x / y) < 0))) ∧ Y.cell? ⟨w1.heap.size, 1, none⟩ = some (.slice Aq nq cq) := by
    subst hY
    exact ⟨((Below.refl _ _).alloc (Nat.le_refl _) _).alloc (by simp) _, by simp [go_sem], by simp [go_sem]⟩
  obtain ⟨hbY, y0, y1⟩ := hYY
  clear hY
  obtain ⟨⟨p1, p2, p3, p4⟩, p5, p6, p7⟩ := HW1.out.keep hbY
  have hDY := hDq.keep hbY
  have hwY := hw1.trans (hbY.mono hw1.size)
  go_wp2_with fail
  exact bodyPost_ret (v := .agg #[.bool (decide (sgn b1 (x / y) < 0)), .slice Aq nq cq]) (by simp [results, Try.results67, go_sem, *]) rfl (retJ_box rfl hDY p7 hwY (by omega))

/-- exact.Int.over, for a divisor that is greater than 0: the quotient, rounded towards 0. -/
theorem over_any (b1 : Bool) (A B : Option Addr) (n m c d x y : Nat) (w : World) (h1 : D w (.slice A n c) x) (h2 : D w (.slice B m d) y) (hn : n ≤ 400000) (hy : 0 < y) (hb : b1 = decide (sgn b1 x < 0)) :
    Calls Try.prog 67 #[.agg #[.bool b1, .slice A n c], .agg #[.bool false, .slice B m d]] w (RetJ (sgn b1 (x / y)) w) := by
  by_cases hy1 : y = 1
  · subst hy1
    rw [Nat.div_one]
    exact over_one b1 A B n m c d x w h1 h2 hb
  · by_cases hm : m = 1
    · subst hm
      obtain ⟨f, f1, f2, f3, f4, f5⟩ := h2.open_
      obtain ⟨b, off, rfl, e2, e3⟩ := f5 (by omega)
      have hc := e3 0 (by omega)
      rw [Nat.add_zero] at hc
      exact over_div1 b1 A b off (f 0) n c d x y w h1 h2 hn hy hc (by rw [V_one] at f4; omega)
    · exact over_div b1 A B n m c d x y w h1 h2 hn hy hm

end Go.Proofs.Ytfhmhkbjcccejaa
