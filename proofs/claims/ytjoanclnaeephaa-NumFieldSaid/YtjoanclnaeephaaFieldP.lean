/- diceboxlaw01.NumField returns true for all numbers: the contract. -/
import Derived.Test.YtjoanclnaeephaaLawF
namespace Go.Proofs.Ytjoanclnaeephaa
open Go.RowKit

/-- A result without an error, by the fractions of its arguments. -/
theorem resT_is {f : Rat → Rat → Rat} {x y : Rat} {t l t' l' : Int} (e1 : t = x.num) (e2 : l = (x.den : Int)) (e3 : t' = y.num) (e4 : l' = (y.den : Int)) (h : (resT f t l t' l').2.2 = 0) :
    vld x.num (x.den : Int) = true ∧ vld y.num (y.den : Int) = true ∧ Fits (f x y) ∧ resT f t l t' l' = ((f x y).num, ((f x y).den : Int), 0) := by
  obtain ⟨x', y', g1, g2, g3, g4, v1, v2, hf, e⟩ := resT_zero h
  obtain rfl : x = x' := rat_eq (by rw [← e1, ← g1]) (by rw [← e2, ← g2])
  obtain rfl : y = y' := rat_eq (by rw [← e3, ← g3]) (by rw [← e4, ← g4])
  exact ⟨v1, v2, hf, e⟩

theorem divT_zero {t l t' l' : Int} (h : (divT t l t' l').2.2 = 0) :
    ∃ x y : Rat, t = x.num ∧ l = (x.den : Int) ∧ t' = y.num ∧ l' = (y.den : Int) ∧ y ≠ 0 ∧ divT t l t' l' = ((x / y).num, ((x / y).den : Int), 0) := by
  unfold divT at h ⊢
  cases h1 : vld t l
  · rw [h1] at h
    rw [if_neg (show ¬ (false && vld t' l') = true from Bool.false_ne_true)] at h
    cases h
  cases h2 : vld t' l'
  · rw [h1, h2] at h
    rw [if_neg (show ¬ (true && false) = true from Bool.false_ne_true)] at h
    cases h
  rw [h1, h2] at h
  rw [if_pos (show (true && true) = true from rfl)] at h ⊢
  cases h3 : (t' == 0)
  · rw [if_neg (by rw [h3]; decide)] at h
    rw [if_neg (by decide)]
    obtain ⟨x, rfl, rfl, e1⟩ := vld_rat h1
    obtain ⟨y, rfl, rfl, e2⟩ := vld_rat h2
    rw [e1, e2] at h ⊢
    refine ⟨x, y, rfl, rfl, rfl, rfl, ?_, (outT_zero h).2⟩
    intro h0
    rw [h0] at h3
    exact absurd h3 (by decide)
  · rw [if_pos h3] at h
    cases h

theorem fact1 {ta la tb lb : Int} (h1 : (resT (fun x y => x + y) ta la tb lb).2.2 = 0)
    (h2 : (resT (fun x y => x - y) (resT (fun x y => x + y) ta la tb lb).1 (resT (fun x y => x + y) ta la tb lb).2.1 tb lb).2.2 = 0) :
    (resT (fun x y => x - y) (resT (fun x y => x + y) ta la tb lb).1 (resT (fun x y => x + y) ta la tb lb).2.1 tb lb).1 = ta ∧
    (resT (fun x y => x - y) (resT (fun x y => x + y) ta la tb lb).1 (resT (fun x y => x + y) ta la tb lb).2.1 tb lb).2.1 = la := by
  obtain ⟨a, b, e1, e2, e3, e4, -, -, -, ep⟩ := resT_zero h1
  rw [ep] at h2 ⊢
  obtain ⟨-, -, -, ex⟩ := resT_is (x := a + b) rfl rfl e3 e4 h2
  rw [ex]
  show (a + b - b).num = ta ∧ ((a + b - b).den : Int) = la
  rw [Rat.add_sub_cancel]
  exact ⟨e1.symm, e2.symm⟩

theorem fact2 {ta la tb lb tc lc : Int} (h1 : (resT (fun x y => x + y) ta la tb lb).2.2 = 0)
    (h2 : (resT (fun x y => x + y) (resT (fun x y => x + y) ta la tb lb).1 (resT (fun x y => x + y) ta la tb lb).2.1 tc lc).2.2 = 0)
    (h3 : (resT (fun x y => x + y) tb lb tc lc).2.2 = 0)
    (h4 : (resT (fun x y => x + y) ta la (resT (fun x y => x + y) tb lb tc lc).1 (resT (fun x y => x + y) tb lb tc lc).2.1).2.2 = 0) :
    resT (fun x y => x + y) (resT (fun x y => x + y) ta la tb lb).1 (resT (fun x y => x + y) ta la tb lb).2.1 tc lc =
    resT (fun x y => x + y) ta la (resT (fun x y => x + y) tb lb tc lc).1 (resT (fun x y => x + y) tb lb tc lc).2.1 := by
  obtain ⟨a, b, e1, e2, e3, e4, -, -, -, ep⟩ := resT_zero h1
  obtain ⟨b', c, g1, g2, g3, g4, -, -, -, ey⟩ := resT_zero h3
  obtain rfl : b = b' := rat_eq (by rw [← e3, ← g1]) (by rw [← e4, ← g2])
  rw [ep] at h2 ⊢
  rw [ey] at h4 ⊢
  obtain ⟨-, -, -, ex⟩ := resT_is (x := a + b) rfl rfl g3 g4 h2
  obtain ⟨-, -, -, ez⟩ := resT_is (y := b + c) e1 e2 rfl rfl h4
  rw [ex, ez]
  simp only [Rat.add_assoc]

theorem fact3 {ta la tb lb tc lc : Int} (h1 : (resT (fun x y => x + y) ta la tb lb).2.2 = 0)
    (h2 : (resT (fun x y => x * y) (resT (fun x y => x + y) ta la tb lb).1 (resT (fun x y => x + y) ta la tb lb).2.1 tc lc).2.2 = 0)
    (h3 : (resT (fun x y => x * y) ta la tc lc).2.2 = 0) (h4 : (resT (fun x y => x * y) tb lb tc lc).2.2 = 0)
    (h5 : (resT (fun x y => x + y) (resT (fun x y => x * y) ta la tc lc).1 (resT (fun x y => x * y) ta la tc lc).2.1 (resT (fun x y => x * y) tb lb tc lc).1 (resT (fun x y => x * y) tb lb tc lc).2.1).2.2 = 0) :
    resT (fun x y => x * y) (resT (fun x y => x + y) ta la tb lb).1 (resT (fun x y => x + y) ta la tb lb).2.1 tc lc =
    resT (fun x y => x + y) (resT (fun x y => x * y) ta la tc lc).1 (resT (fun x y => x * y) ta la tc lc).2.1 (resT (fun x y => x * y) tb lb tc lc).1 (resT (fun x y => x * y) tb lb tc lc).2.1 := by
  obtain ⟨a, b, e1, e2, e3, e4, -, -, -, ep⟩ := resT_zero h1
  obtain ⟨b', c, g1, g2, g3, g4, -, -, -, ey⟩ := resT_zero h4
  obtain rfl : b = b' := rat_eq (by rw [← e3, ← g1]) (by rw [← e4, ← g2])
  obtain ⟨-, -, -, ev⟩ := resT_is e1 e2 g3 g4 h3
  rw [ep] at h2 ⊢
  rw [ev, ey] at h5 ⊢
  obtain ⟨-, -, -, ex⟩ := resT_is (x := a + b) rfl rfl g3 g4 h2
  obtain ⟨-, -, -, ez⟩ := resT_is (x := a * c) (y := b * c) rfl rfl rfl rfl h5
  rw [ex, ez]
  simp only [Rat.add_mul]

theorem fact4 {ta la tb lb : Int} (h1 : (resT (fun x y => x * y) ta la tb lb).2.2 = 0)
    (h2 : (divT (resT (fun x y => x * y) ta la tb lb).1 (resT (fun x y => x * y) ta la tb lb).2.1 tb lb).2.2 = 0) :
    (divT (resT (fun x y => x * y) ta la tb lb).1 (resT (fun x y => x * y) ta la tb lb).2.1 tb lb).1 = ta ∧
    (divT (resT (fun x y => x * y) ta la tb lb).1 (resT (fun x y => x * y) ta la tb lb).2.1 tb lb).2.1 = la := by
  obtain ⟨a, b, e1, e2, e3, e4, -, -, -, ep⟩ := resT_zero h1
  rw [ep] at h2 ⊢
  obtain ⟨x, y, g1, g2, g3, g4, hy, ex⟩ := divT_zero h2
  obtain rfl : a * b = x := rat_eq g1 g2
  obtain rfl : b = y := rat_eq (by rw [← e3, ← g3]) (by rw [← e4, ← g4])
  rw [ex]
  show (a * b / b).num = ta ∧ ((a * b / b).den : Int) = la
  rw [Rat.mul_div_cancel hy]
  exact ⟨e1.symm, e2.symm⟩

theorem fact5 {ta la tb lb tc lc : Int} (h1 : (resT (fun x y => x * y) ta la tb lb).2.2 = 0)
    (h2 : (resT (fun x y => x * y) (resT (fun x y => x * y) ta la tb lb).1 (resT (fun x y => x * y) ta la tb lb).2.1 tc lc).2.2 = 0)
    (h3 : (resT (fun x y => x * y) tb lb tc lc).2.2 = 0)
    (h4 : (resT (fun x y => x * y) ta la (resT (fun x y => x * y) tb lb tc lc).1 (resT (fun x y => x * y) tb lb tc lc).2.1).2.2 = 0) :
    resT (fun x y => x * y) (resT (fun x y => x * y) ta la tb lb).1 (resT (fun x y => x * y) ta la tb lb).2.1 tc lc =
    resT (fun x y => x * y) ta la (resT (fun x y => x * y) tb lb tc lc).1 (resT (fun x y => x * y) tb lb tc lc).2.1 := by
  obtain ⟨a, b, e1, e2, e3, e4, -, -, -, ep⟩ := resT_zero h1
  obtain ⟨b', c, g1, g2, g3, g4, -, -, -, ey⟩ := resT_zero h3
  obtain rfl : b = b' := rat_eq (by rw [← e3, ← g1]) (by rw [← e4, ← g2])
  rw [ep] at h2 ⊢
  rw [ey] at h4 ⊢
  obtain ⟨-, -, -, ex⟩ := resT_is (x := a * b) rfl rfl g3 g4 h2
  obtain ⟨-, -, -, ez⟩ := resT_is (y := b * c) e1 e2 rfl rfl h4
  rw [ex, ez]
  simp only [Rat.mul_assoc]

theorem field_any (ta la tb lb tc lc : Int) (w : World) :
    Calls Try.prog 8 #[.agg #[.int .i64 ta, .int .i64 la], .agg #[.int .i64 tb, .int .i64 lb], .agg #[.int .i64 tc, .int .i64 lc]] w fun e w' => e = .returned (.bool true) ∧ Below w.heap.size w w' := by
  have ca : resT (fun x y => x + y) tb lb ta la = resT (fun x y => x + y) ta la tb lb := resT_comm Rat.add_comm _ _ _ _
  have cm : resT (fun x y => x * y) tb lb ta la = resT (fun x y => x * y) ta la tb lb := resT_comm Rat.mul_comm _ _ _ _
  refine field_walk ta la tb lb tc lc _ _ _ _ _ _ _ _ _ _ _ _ _ _ _ _ _ _ _ _ _ _ _ _ _ _ _ _ _ _ _ _ _ _ _ _ _ _ _ _ _ _ w
    (Lib.hid fun wx => addRt ta la tb lb wx) (Lib.hid fun wx => ?_) (Lib.hid fun wx => mulRt ta la tb lb wx) (Lib.hid fun wx => ?_)
    (Lib.hid fun wx => subRt _ _ tb lb wx) (Lib.hid fun wx => addRt _ _ tc lc wx) (Lib.hid fun wx => addRt tb lb tc lc wx) (Lib.hid fun wx => addRt ta la _ _ wx)
    (Lib.hid fun wx => mulRt _ _ tc lc wx) (Lib.hid fun wx => mulRt ta la tc lc wx) (Lib.hid fun wx => mulRt tb lb tc lc wx) (Lib.hid fun wx => addRt _ _ _ _ wx)
    (Lib.hid fun wx => divRt _ _ tb lb wx) (Lib.hid fun wx => mulRt _ _ tc lc wx) (Lib.hid fun wx => mulRt tb lb tc lc wx) (Lib.hid fun wx => mulRt ta la _ _ wx) ?_ ?_ ?_ ?_ ?_
  · have h := addRt tb lb ta la wx
    rw [ca] at h
    exact h
  · have h := mulRt tb lb ta la wx
    rw [cm] at h
    exact h
  · exact fun h1 h2 => fact1 h1 h2
  · exact fun h1 h2 h3 h4 => by rw [fact2 h1 h2 h3 h4]; exact ⟨rfl, rfl⟩
  · exact fun h1 h2 h3 h4 h5 => by rw [fact3 h1 h2 h3 h4 h5]; exact ⟨rfl, rfl⟩
  · exact fun h1 h2 => fact4 h1 h2
  · exact fun h1 h2 h3 h4 => by rw [fact5 h1 h2 h3 h4]; exact ⟨rfl, rfl⟩

end Go.Proofs.Ytjoanclnaeephaa
