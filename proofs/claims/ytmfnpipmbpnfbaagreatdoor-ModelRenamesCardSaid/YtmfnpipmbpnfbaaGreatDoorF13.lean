/- Integers of any size in memory: exact quotients, and the ones that fit. -/
import Derived.Test.YtmfnpipmbpnfbaaGreatDoorF12
import Derived.Deep.DeepCutAuto

set_option maxRecDepth 100000
set_option maxHeartbeats 40000000
namespace Go.Proofs.YtmfnpipmbpnfbaaGreatDoor
open Go.RowKit
theorem cmpI_le {x y : Int} (h : ¬ y < x) : ∃ r : Int, cmpI x y = r ∧ r ≤ 0 := by
  refine ⟨cmpI x y, rfl, ?_⟩
  unfold cmpI
  repeat' split
  all_goals omega
def MaxN : Nat := 1152921504606846976
theorem MaxN_eq : MaxN = 1152921504606846976 := rfl
theorem word_max (w : World) : Calls Tryz.prog 218 #[.int .u64 1152921504606846976] w (RetD MaxN w) := word_any 1152921504606846976 w (by omega)
theorem limited_big (b : Bool) (A : Option Addr) (n c x : Nat) (w : World) (h : D w (.slice A n c) x) (hn : n ≤ 400000) (hx : MaxN < x) :
    Calls Tryz.prog 188 #[.agg #[.bool b, .slice A n c]] w fun e w' => e = .returned (.tuple #[.int .i64 0, .bool false]) ∧ Below w.heap.size w w' := by
  have HCI : Hid (cmpI (x : Int) (MaxN : Int) = 1) := cmpI_gt (by omega)
  have HC : Hid (∀ wb wx vB vm vd, Below w.heap.size w wb → D wb (.slice vB vm vd) MaxN → Drn wb wx → Calls Tryz.prog 217 #[.slice A n c, .slice vB vm vd] wx fun e w' => e = .returned (.int .i64 1) ∧ Drn wx w') := fun wb wx vB vm vd hb hd hx => by
    have := compD_any A vB n vm c vd x MaxN wx (hx.d (h.keep hb)) (hx.d hd) hn
    rw [HCI.out] at this; exact this
  clear h hx
  go_enter Tryz.func188, Tryz.ntmps188
  go_wp2_with fail
  have bb : Below w.heap.size w (w.alloc (.cells #[.bool b, .slice A n c] 183)) := below_alloc w _
  generalize hMM : (1152921504606846976 : Int) = MM
  have HWM : Hid (∀ wx, Calls Tryz.prog 218 #[.int .u64 MM] wx (RetD MaxN wx)) := fun wx => by rw [← hMM]; exact word_max wx
  clear hMM
  go_region_with (first
    | (go_at_call 218; (with_reducible refine (HWM.out _).mono ?_); rintro e w1 ⟨v, rfl, hD, hB⟩; obtain ⟨A1, n1, c1, rfl⟩ := hD.shape; (have hB1 : Below w.heap.size w w1 := bb.trans (Below.mono (by first | exact hB | exact below_undrew' hB) bb.size)); (have hcx := (Below.cell (by first | exact hB | exact below_undrew' hB) (p := ⟨w.heap.size, 1, none⟩) (by simp)).trans (show _ = some (Value.slice A n c) by simp [go_sem])))
    | (go_at_call 217; (with_reducible refine (HC.out w1 _ _ _ _ hB1 hD (by first | exact Drn.refl _ | exact (Drn.refl _).more1)).mono ?_); rintro e w2 ⟨rfl, hdr⟩; (have hB2 : Below w.heap.size w w2 := hB1.trans (Drn.below (by first | exact hdr | exact Drn.trans (Drn.more1 (Drn.refl _)) hdr) _))))
  all_goals simp only [Exit.then]
  all_goals go_simp
  all_goals go_wp2_with fail
  all_goals (go_ret2; exact ⟨rfl, hB2⟩)
theorem limited_false (A : Option Addr) (n c x : Nat) (w : World) (h : D w (.slice A n c) x) (hx : x ≤ MaxN) :
    Calls Tryz.prog 188 #[.agg #[.bool false, .slice A n c]] w fun e w' => e = .returned (.tuple #[.int .i64 ((x : Int)), .bool true]) ∧ Below w.heap.size w w' := by
  have hn : n ≤ 2 := h.len (by have e : W ^ 2 = 18446744073709551616 := by rw [W_eq]
                               rw [MaxN_eq] at hx
                               omega)
  obtain ⟨r, hr, hr0⟩ : ∃ r : Int, cmpI (x : Int) (MaxN : Int) = r ∧ r ≤ 0 := cmpI_le (by omega)
  have HC : Hid (∀ wb wx vB vm vd, Below w.heap.size w wb → D wb (.slice vB vm vd) MaxN → Drn wb wx → Calls Tryz.prog 217 #[.slice A n c, .slice vB vm vd] wx fun e w' => e = .returned (.int .i64 r) ∧ Drn wx w') := fun wb wx vB vm vd hb hd hx => by
    have := compD_any A vB n vm c vd x MaxN wx (hx.d (h.keep hb)) (hx.d hd) (by omega)
    rw [hr] at this; exact this
  have HWD : Hid (∀ wx, Below w.heap.size w wx → Calls Tryz.prog 219 #[.slice A n c] wx fun e w' => e = .returned (.int .u64 (x : Int)) ∧ wx = w') := fun wx hx => by
    obtain ⟨f, f1, f2, f3, f4, f5⟩ := (h.keep hx).open_
    rw [← f4]; exact wordm_any A n c f wx hn f5 f2
  have hr1 : decide (0 < r) = false := by simp; omega
  have hxs : x ≤ 1152921504606846976 := hx
  clear h hx hr
  go_enter Tryz.func188, Tryz.ntmps188
  go_wp2_with fail
  have bb : Below w.heap.size w (w.alloc (.cells #[.bool false, .slice A n c] 183)) := below_alloc w _
  generalize hMM : (1152921504606846976 : Int) = MM
  have HWM : Hid (∀ wx, Calls Tryz.prog 218 #[.int .u64 MM] wx (RetD MaxN wx)) := fun wx => by rw [← hMM]; exact word_max wx
  clear hMM
  go_region_with (first
    | (go_at_call 218; (with_reducible refine (HWM.out _).mono ?_); rintro e w1 ⟨v, rfl, hD, hB⟩; obtain ⟨A1, n1, c1, rfl⟩ := hD.shape; (have hB1 : Below w.heap.size w w1 := bb.trans (Below.mono (by first | exact hB | exact below_undrew' hB) bb.size)); (have hcx := (Below.cell (by first | exact hB | exact below_undrew' hB) (p := ⟨w.heap.size, 1, none⟩) (by simp)).trans (show _ = some (Value.slice A n c) by simp [go_sem])); (have hcz := (Below.cell (by first | exact hB | exact below_undrew' hB) (p := ⟨w.heap.size, 0, none⟩) (by simp)).trans (show _ = some (Value.bool false) by simp [go_sem])))
    | (go_at_call 217; (with_reducible refine (HC.out w1 _ _ _ _ hB1 hD (by first | exact Drn.refl _ | exact (Drn.refl _).more1)).mono ?_); rintro e w2 ⟨rfl, hdr⟩; (have hd2 : Drn w1 w2 := (by first | exact hdr | exact Drn.trans (Drn.more1 (Drn.refl _)) hdr)); (have hB2 : Below w.heap.size w w2 := hB1.trans (hd2.below _)); (have hcx2 := (hd2.cell ⟨w.heap.size, 1, none⟩).trans hcx); (have hcz2 := (hd2.cell ⟨w.heap.size, 0, none⟩).trans hcz)))
  all_goals simp only [Exit.then]
  all_goals go_simp
  all_goals go_wp2_with ((with_reducible refine (HWD.out _ hB2).mono ?_); rintro e w' ⟨rfl, rfl⟩)
  all_goals (go_ret2; exact ⟨rfl, hB2⟩)
theorem limited_true (A : Option Addr) (n c x : Nat) (w : World) (h : D w (.slice A n c) x) (hx : x ≤ MaxN) :
    Calls Tryz.prog 188 #[.agg #[.bool true, .slice A n c]] w fun e w' => e = .returned (.tuple #[.int .i64 (-(x : Int)), .bool true]) ∧ Below w.heap.size w w' := by
  have hn : n ≤ 2 := h.len (by have e : W ^ 2 = 18446744073709551616 := by rw [W_eq]
                               rw [MaxN_eq] at hx
                               omega)
  obtain ⟨r, hr, hr0⟩ : ∃ r : Int, cmpI (x : Int) (MaxN : Int) = r ∧ r ≤ 0 := cmpI_le (by omega)
  have HC : Hid (∀ wb wx vB vm vd, Below w.heap.size w wb → D wb (.slice vB vm vd) MaxN → Drn wb wx → Calls Tryz.prog 217 #[.slice A n c, .slice vB vm vd] wx fun e w' => e = .returned (.int .i64 r) ∧ Drn wx w') := fun wb wx vB vm vd hb hd hx => by
    have := compD_any A vB n vm c vd x MaxN wx (hx.d (h.keep hb)) (hx.d hd) (by omega)
    rw [hr] at this; exact this
  have HWD : Hid (∀ wx, Below w.heap.size w wx → Calls Tryz.prog 219 #[.slice A n c] wx fun e w' => e = .returned (.int .u64 (x : Int)) ∧ wx = w') := fun wx hx => by
    obtain ⟨f, f1, f2, f3, f4, f5⟩ := (h.keep hx).open_
    rw [← f4]; exact wordm_any A n c f wx hn f5 f2
  have hr1 : decide (0 < r) = false := by simp; omega
  have hxs : x ≤ 1152921504606846976 := hx
  clear h hx hr
  go_enter Tryz.func188, Tryz.ntmps188
  go_wp2_with fail
  have bb : Below w.heap.size w (w.alloc (.cells #[.bool true, .slice A n c] 183)) := below_alloc w _
  generalize hMM : (1152921504606846976 : Int) = MM
  have HWM : Hid (∀ wx, Calls Tryz.prog 218 #[.int .u64 MM] wx (RetD MaxN wx)) := fun wx => by rw [← hMM]; exact word_max wx
  clear hMM
  go_region_with (first
    | (go_at_call 218; (with_reducible refine (HWM.out _).mono ?_); rintro e w1 ⟨v, rfl, hD, hB⟩; obtain ⟨A1, n1, c1, rfl⟩ := hD.shape; (have hB1 : Below w.heap.size w w1 := bb.trans (Below.mono (by first | exact hB | exact below_undrew' hB) bb.size)); (have hcx := (Below.cell (by first | exact hB | exact below_undrew' hB) (p := ⟨w.heap.size, 1, none⟩) (by simp)).trans (show _ = some (Value.slice A n c) by simp [go_sem])); (have hcz := (Below.cell (by first | exact hB | exact below_undrew' hB) (p := ⟨w.heap.size, 0, none⟩) (by simp)).trans (show _ = some (Value.bool true) by simp [go_sem])))
    | (go_at_call 217; (with_reducible refine (HC.out w1 _ _ _ _ hB1 hD (by first | exact Drn.refl _ | exact (Drn.refl _).more1)).mono ?_); rintro e w2 ⟨rfl, hdr⟩; (have hd2 : Drn w1 w2 := (by first | exact hdr | exact Drn.trans (Drn.more1 (Drn.refl _)) hdr)); (have hB2 : Below w.heap.size w w2 := hB1.trans (hd2.below _)); (have hcx2 := (hd2.cell ⟨w.heap.size, 1, none⟩).trans hcx); (have hcz2 := (hd2.cell ⟨w.heap.size, 0, none⟩).trans hcz)))
  all_goals simp only [Exit.then]
  all_goals go_simp
  all_goals go_wp2_with ((with_reducible refine (HWD.out _ hB2).mono ?_); rintro e w' ⟨rfl, rfl⟩)
  all_goals (go_ret2; exact ⟨rfl, hB2⟩)
theorem limited_small (b : Bool) (A : Option Addr) (n c x : Nat) (w : World) (h : D w (.slice A n c) x) (hx : x ≤ MaxN) :
    Calls Tryz.prog 188 #[.agg #[.bool b, .slice A n c]] w fun e w' => e = .returned (.tuple #[.int .i64 (sgn b x), .bool true]) ∧ Below w.heap.size w w' := by
  cases b
  · exact limited_false A n c x w h hx
  · exact limited_true A n c x w h hx
theorem one_digit {w : World} {B : Option Addr} {m d y : Nat} (h : D w (.slice B m d) y) : (y = 1 ↔ m = 1 ∧ ∃ b off, B = some ⟨b, off, none⟩ ∧ w.cell? ⟨b, off, none⟩ = some (.int .u32 1)) := by
  obtain ⟨f, h1, h2, h3, h4, h5⟩ := h.open_
  constructor
  · intro e
    have hm : m = 1 := by
      have hle : m ≤ 1 := len_of_lt h3 (by rw [h4, e]; show 1 < W ^ 1; rw [W_eq]; omega)
      have h0 : m ≠ 0 := by rintro rfl; rw [V_zero] at h4; omega
      omega
    subst hm
    obtain ⟨b, off, e1, e2, e3⟩ := h5 (by omega)
    rw [V_one] at h4
    have := e3 0 (by omega)
    rw [Nat.add_zero, h4, e] at this
    exact ⟨rfl, b, off, e1, this⟩
  · rintro ⟨rfl, b, off, rfl, hc⟩
    obtain ⟨b', off', e1, e2, e3⟩ := h5 (by omega)
    have := e3 0 (by omega)
    injection e1 with e1
    injection e1 with e1 e1'
    subst e1 e1'
    rw [Nat.add_zero, hc] at this
    injection this with this
    injection this with _ this
    rw [V_one] at h4
    omega
theorem over_one (b1 : Bool) (A B : Option Addr) (n m c d x : Nat) (w : World) (h1 : D w (.slice A n c) x) (h2 : D w (.slice B m d) 1) (hb : b1 = decide (sgn b1 x < 0)) :
    Calls Tryz.prog 214 #[.agg #[.bool b1, .slice A n c], .agg #[.bool false, .slice B m d]] w (RetJ (sgn b1 x) w) := by
  obtain ⟨rfl, b, off, rfl, hc⟩ := (one_digit h2).1 rfl
  have hlt := World.block_lt_of_cell? w _ hc
  have HB := Lib.hid hb
  have HD : Hid (∀ wx, Below w.heap.size w wx → D wx (.slice A n c) (sgn b1 x).natAbs) := fun wx hx => by rw [sgn_abs]; exact h1.keep hx
  clear h1 h2 hb
  go_enter Tryz.func214, Tryz.ntmps214
  have hcX : ∀ X, Below w.heap.size w X → X.cell? ⟨b, off, none⟩ = some (.int .u32 1) := fun X hX => (hX.cell (p := ⟨b, off, none⟩) hlt).trans hc
  have HCX := Lib.hid hcX
  clear hcX hc
  go_upto_region 1 with fail
  generalize hX : ((w.alloc _).alloc _).alloc _ = X
  have hXX := frame3 w (.bool b1) (.slice A n c) (.bool false) (.slice (some ⟨b, off, none⟩) 1 d) (.bool false) (.slice none 0 0)
  rw [hX] at hXX
  obtain ⟨hwX, hsX, hW, hFr⟩ := hXX
  have hcX := HCX.out X hwX
  obtain ⟨i0, i1, i2, i3⟩ := hFr.out
  have HWr := Lib.hid hW
  obtain ⟨⟨p1, p2, p3, p4⟩, p5, p6, p7⟩ := hW
  clear hX hsX
  go_wp2_with fail
  exact bodyPost_ret (v := .agg #[.bool b1, .slice A n c]) (by simp [results, Tryz.results214, go_sem, *]) rfl (retJ_box HB.out (HD.out X hwX) p7 hwX (by omega))
theorem over_div (b1 : Bool) (A B : Option Addr) (n m c d x y : Nat) (w : World) (h1 : D w (.slice A n c) x) (h2 : D w (.slice B m d) y) (hn : n ≤ 400000) (hy : 0 < y) (hm : m ≠ 1) :
    Calls Tryz.prog 214 #[.agg #[.bool b1, .slice A n c], .agg #[.bool false, .slice B m d]] w (RetJ (sgn b1 (x / y)) w) := by
  have HDV : Hid (∀ X, Below w.heap.size w X → Calls Tryz.prog 241 #[.agg #[.bool b1, .slice A n c], .agg #[.bool false, .slice B m d]] X (RetJJ (sgn b1 (x / y)) (sgn b1 (x % y)) X)) := fun X hX => by
    have := divideI_any b1 false A B n m c d x y X (h1.keep hX) (h2.keep hX) (by omega) hy
    have e : (!b1 == false) = b1 := by cases b1 <;> rfl
    rw [e] at this
    exact this
  have hmb : ((m : Int) == 1) = false := by rw [beq_eq_false_iff_ne]; omega
  clear h1 h2 hm
  go_enter Tryz.func214, Tryz.ntmps214
  go_upto_region 1 with fail
  generalize hX : ((w.alloc _).alloc _).alloc _ = X
  have hXX := frame3 w (.bool b1) (.slice A n c) (.bool false) (.slice B m d) (.bool false) (.slice none 0 0)
  rw [hX] at hXX
  obtain ⟨hwX, hsX, hW, hFr⟩ := hXX
  obtain ⟨i0, i1, i2, i3⟩ := hFr.out
  have HWr := Lib.hid hW
  have HSX := Lib.hid hsX
  clear hX hsX hW
  go_wp2_with fail
  (with_reducible refine (HDV.out X hwX).mono ?_)
  rintro e w1 ⟨Aq, nq, cq, Ar, nr, cr, rfl, hDq, hDr, hB⟩
  have hW1 := HWr.out.keep hB
  have HW1 := Lib.hid hW1
  have hw1 := hwX.trans (hB.mono hwX.size)
  clear i0 i1 i2 i3 hW1
  go_upto_region 4 with fail
  generalize hY : (w1.alloc _).alloc _ = Y
  have hYY : Below w1.heap.size w1 Y ∧ Y.cell? ⟨w1.heap.size, 0, none⟩ = some (.bool (decide (sgn b1 (x / y) < 0))) ∧ Y.cell? ⟨w1.heap.size, 1, none⟩ = some (.slice Aq nq cq) := by
    subst hY
    exact ⟨((Below.refl _ _).alloc (Nat.le_refl _) _).alloc (by simp) _, by simp [go_sem], by simp [go_sem]⟩
  obtain ⟨hbY, y0, y1⟩ := hYY
  clear hY
  obtain ⟨⟨p1, p2, p3, p4⟩, p5, p6, p7⟩ := HW1.out.keep hbY
  have hDY := hDq.keep hbY
  have hwY := hw1.trans (hbY.mono hw1.size)
  go_wp2_with fail
  exact bodyPost_ret (v := .agg #[.bool (decide (sgn b1 (x / y) < 0)), .slice Aq nq cq]) (by simp [results, Tryz.results214, go_sem, *]) rfl (retJ_box rfl hDY p7 hwY (by omega))
theorem over_div1 (b1 : Bool) (A : Option Addr) (b off v n c d x y : Nat) (w : World) (h1 : D w (.slice A n c) x) (h2 : D w (.slice (some ⟨b, off, none⟩) 1 d) y) (hn : n ≤ 400000) (hy : 0 < y) (hc : w.cell? ⟨b, off, none⟩ = some (.int .u32 (v : Int))) (hv : v ≠ 1) :
    Calls Tryz.prog 214 #[.agg #[.bool b1, .slice A n c], .agg #[.bool false, .slice (some ⟨b, off, none⟩) 1 d]] w (RetJ (sgn b1 (x / y)) w) := by
  have HDV : Hid (∀ X, Below w.heap.size w X → Calls Tryz.prog 241 #[.agg #[.bool b1, .slice A n c], .agg #[.bool false, .slice (some ⟨b, off, none⟩) 1 d]] X (RetJJ (sgn b1 (x / y)) (sgn b1 (x % y)) X)) := fun X hX => by
    have := divideI_any b1 false A _ n 1 c d x y X (h1.keep hX) (h2.keep hX) (by omega) hy
    have e : (!b1 == false) = b1 := by cases b1 <;> rfl
    rw [e] at this
    exact this
  have hvb : ((v : Int) == 1) = false := by rw [beq_eq_false_iff_ne]; omega
  have hlt := World.block_lt_of_cell? w _ hc
  have HCX : Hid (∀ X, Below w.heap.size w X → X.cell? ⟨b, off, none⟩ = some (.int .u32 (v : Int))) := fun X hX => (hX.cell (p := ⟨b, off, none⟩) hlt).trans hc
  clear h1 h2 hv hc
  go_enter Tryz.func214, Tryz.ntmps214
  go_upto_region 1 with fail
  generalize hX : ((w.alloc _).alloc _).alloc _ = X
  have hXX := frame3 w (.bool b1) (.slice A n c) (.bool false) (.slice (some ⟨b, off, none⟩) 1 d) (.bool false) (.slice none 0 0)
  rw [hX] at hXX
  obtain ⟨hwX, hsX, hW, hFr⟩ := hXX
  have hcX := HCX.out X hwX
  obtain ⟨i0, i1, i2, i3⟩ := hFr.out
  have HWr := Lib.hid hW
  have HSX := Lib.hid hsX
  clear hX hsX hW
  go_wp2_with fail
  (with_reducible refine (HDV.out X hwX).mono ?_)
  rintro e w1 ⟨Aq, nq, cq, Ar, nr, cr, rfl, hDq, hDr, hB⟩
  have hW1 := HWr.out.keep hB
  have HW1 := Lib.hid hW1
  have hw1 := hwX.trans (hB.mono hwX.size)
  clear i0 i1 i2 i3 hW1 hcX
  go_upto_region 4 with fail
  generalize hY : (w1.alloc _).alloc _ = Y
  have hYY : Below w1.heap.size w1 Y ∧ Y.cell? ⟨w1.heap.size, 0, none⟩ = some (.bool (decide (sgn b1 (x / y) < 0))) ∧ Y.cell? ⟨w1.heap.size, 1, none⟩ = some (.slice Aq nq cq) := by
    subst hY
    exact ⟨((Below.refl _ _).alloc (Nat.le_refl _) _).alloc (by simp) _, by simp [go_sem], by simp [go_sem]⟩
  obtain ⟨hbY, y0, y1⟩ := hYY
  clear hY
  obtain ⟨⟨p1, p2, p3, p4⟩, p5, p6, p7⟩ := HW1.out.keep hbY
  have hDY := hDq.keep hbY
  have hwY := hw1.trans (hbY.mono hw1.size)
  go_wp2_with fail
  exact bodyPost_ret (v := .agg #[.bool (decide (sgn b1 (x / y) < 0)), .slice Aq nq cq]) (by simp [results, Tryz.results214, go_sem, *]) rfl (retJ_box rfl hDY p7 hwY (by omega))
theorem over_any (b1 : Bool) (A B : Option Addr) (n m c d x y : Nat) (w : World) (h1 : D w (.slice A n c) x) (h2 : D w (.slice B m d) y) (hn : n ≤ 400000) (hy : 0 < y) (hb : b1 = decide (sgn b1 x < 0)) :
    Calls Tryz.prog 214 #[.agg #[.bool b1, .slice A n c], .agg #[.bool false, .slice B m d]] w (RetJ (sgn b1 (x / y)) w) := by
  by_cases hy1 : y = 1
  · subst hy1
    rw [Nat.div_one]
    exact over_one b1 A B n m c d x w h1 h2 hb
  · by_cases hm : m = 1
    · subst hm
      obtain ⟨f, f1, f2, f3, f4, f5⟩ := h2.open_
      obtain ⟨b, off, rfl, e2, e3⟩ := f5 (by omega)
      have hc := e3 0 (by omega)
      rw [Nat.add_zero] at hc
      exact over_div1 b1 A b off (f 0) n c d x y w h1 h2 hn hy hc (by rw [V_one] at f4; omega)
    · exact over_div b1 A B n m c d x y w h1 h2 hn hy hm
end Go.Proofs.YtmfnpipmbpnfbaaGreatDoor
namespace Go.Proofs.YtmfnpipmbpnfbaaGreatDoor
theorem rat_of_mkRat {n t : Int} {d l : Nat} (hd : d ≠ 0) (hl : l ≠ 0) (hc : t.natAbs.gcd l = 1) (h : n * l = t * d) : (mkRat n d).num = t ∧ (mkRat n d).den = l := by
  have e : mkRat n d = ⟨t, l, hl, hc⟩ := by
    rw [Rat.mk_eq_mkRat, Rat.mkRat_eq_iff hd hl]
    exact h
  rw [e]; exact ⟨rfl, rfl⟩
theorem cop_of_gcd {a b d u v : Nat} (hd : 0 < d) (h : Nat.gcd a b = d) (hu : a = u * d) (hv : b = v * d) : Nat.Coprime u v := by
  have : Nat.gcd (u * d) (v * d) = d := by rw [← hu, ← hv, h]
  rw [Nat.gcd_mul_right] at this
  exact Nat.eq_of_mul_eq_mul_right hd (by rw [this, Nat.one_mul])
theorem cop_sum {p q : Int} {a u v : Nat} (hpa : Nat.Coprime p.natAbs a) (hua : u ∣ a) (huv : Nat.Coprime u v) : Nat.Coprime (p * v + q * u).natAbs u := by
  have hg : Nat.gcd (p * v + q * u).natAbs u = 1 := by
    generalize hgd : Nat.gcd (p * v + q * u).natAbs u = g
    have h1 : g ∣ (p * v + q * u).natAbs := by rw [← hgd]; exact Nat.gcd_dvd_left _ _
    have h2 : g ∣ u := by rw [← hgd]; exact Nat.gcd_dvd_right _ _
    have h3 : (g : Int) ∣ p * v + q * u := Int.ofNat_dvd_left.2 h1
    have h4 : (g : Int) ∣ q * u := Int.dvd_trans (Int.ofNat_dvd.2 h2) (Int.dvd_mul_left _ _)
    have h5 : (g : Int) ∣ p * v := by
      have := Int.dvd_sub h3 h4
      rwa [Int.add_sub_cancel] at this
    have h6 : g ∣ p.natAbs * v := by
      have := Int.ofNat_dvd_left.1 h5
      rwa [Int.natAbs_mul, Int.natAbs_natCast] at this
    have h7 : Nat.Coprime g v := Nat.Coprime.coprime_dvd_left h2 huv
    have h8 : g ∣ p.natAbs := h7.dvd_of_dvd_mul_right h6
    have h9 : g ∣ Nat.gcd p.natAbs a := Nat.dvd_gcd h8 (Nat.dvd_trans h2 hua)
    rw [hpa.gcd_eq_one] at h9
    exact Nat.dvd_one.1 h9
  exact hg
theorem rat_add {x y : Rat} {d u v r e : Nat} {s : Int} (hd : Nat.gcd x.den y.den = d) (hu : x.den = u * d) (hv : y.den = v * d)
    (hr : (x.num * v + y.num * u).natAbs.gcd d = r) (hs : x.num * v + y.num * u = s * r) (he : d = e * r) : (x + y).num = s ∧ (x + y).den = e * u * v := by
  have hx : x.den ≠ 0 := x.den_nz
  have hy : y.den ≠ 0 := y.den_nz
  have hd0 : 0 < d := by rw [← hd]; exact Nat.gcd_pos_of_pos_left _ (by omega)
  have hr0 : 0 < r := by rw [← hr]; exact Nat.gcd_pos_of_pos_right _ hd0
  have huv : Nat.Coprime u v := cop_of_gcd hd0 hd hu hv
  have c1 : Nat.Coprime (x.num * v + y.num * u).natAbs u := cop_sum x.reduced ⟨d, hu⟩ huv
  have c2 : Nat.Coprime (x.num * v + y.num * u).natAbs v := by
    rw [Int.add_comm]; exact cop_sum y.reduced ⟨d, hv⟩ huv.symm
  have hsn : (x.num * v + y.num * u).natAbs = s.natAbs * r := by rw [hs, Int.natAbs_mul, Int.natAbs_natCast]
  have c3 : Nat.Coprime s.natAbs e := cop_of_gcd hr0 hr hsn he
  have hdv : s.natAbs ∣ (x.num * v + y.num * u).natAbs := ⟨r, hsn⟩
  have c4 : Nat.Coprime s.natAbs (e * u * v) := (c3.mul_right (c1.coprime_dvd_left hdv)).mul_right (c2.coprime_dvd_left hdv)
  rw [Rat.add_def']
  refine rat_of_mkRat (Nat.mul_ne_zero hx hy) ?_ c4 ?_
  · intro h0
    rcases Nat.mul_eq_zero.1 h0 with h | h
    · rcases Nat.mul_eq_zero.1 h with h | h
      · rw [h, Nat.zero_mul] at he; omega
      · rw [h, Nat.zero_mul] at hu; omega
    · rw [h, Nat.zero_mul] at hv; omega
  · have e1 : x.num * (y.den : Int) + y.num * (x.den : Int) = s * r * d := by
      rw [← hs, hu, hv, Int.natCast_mul, Int.natCast_mul]; grind
    rw [e1, hu, hv]
    simp only [Int.natCast_mul]
    have e2 : (d : Int) = e * r := by rw [he, Int.natCast_mul]
    grind
theorem rat_mul {x y : Rat} {l r c e : Nat} {a b : Int} (hl : x.num.natAbs.gcd y.den = l) (hr : y.num.natAbs.gcd x.den = r)
    (ha : x.num = a * l) (hb : y.num = b * r) (hc : x.den = c * r) (he : y.den = e * l) : (x * y).num = a * b ∧ (x * y).den = c * e := by
  have hx : x.den ≠ 0 := x.den_nz
  have hy : y.den ≠ 0 := y.den_nz
  have hl0 : 0 < l := by rw [← hl]; exact Nat.gcd_pos_of_pos_right _ (by omega)
  have hr0 : 0 < r := by rw [← hr]; exact Nat.gcd_pos_of_pos_right _ (by omega)
  have han : x.num.natAbs = a.natAbs * l := by rw [ha, Int.natAbs_mul, Int.natAbs_natCast]
  have hbn : y.num.natAbs = b.natAbs * r := by rw [hb, Int.natAbs_mul, Int.natAbs_natCast]
  have c1 : Nat.Coprime a.natAbs e := cop_of_gcd hl0 hl han he
  have c2 : Nat.Coprime b.natAbs c := cop_of_gcd hr0 hr hbn hc
  have c3 : Nat.Coprime a.natAbs c := (x.reduced.coprime_dvd_left ⟨l, han⟩).coprime_dvd_right ⟨r, hc⟩
  have c4 : Nat.Coprime b.natAbs e := (y.reduced.coprime_dvd_left ⟨r, hbn⟩).coprime_dvd_right ⟨l, he⟩
  have c5 : (a * b).natAbs.gcd (c * e) = 1 := by
    rw [Int.natAbs_mul]
    exact (c3.mul_right c1).mul_left (c2.mul_right c4)
  rw [Rat.mul_def']
  refine rat_of_mkRat (Nat.mul_ne_zero hx hy) ?_ c5 ?_
  · intro h0
    rcases Nat.mul_eq_zero.1 h0 with h | h
    · rw [h, Nat.zero_mul] at hc; omega
    · rw [h, Nat.zero_mul] at he; omega
  · rw [ha, hb, hc, he]
    simp only [Int.natCast_mul]
    grind
theorem rat_ratio {n t : Int} {d l g : Nat} (hd : d ≠ 0) (hg : n.natAbs.gcd d = g) (ht : n = t * g) (hl : d = l * g) : (mkRat n d).num = t ∧ (mkRat n d).den = l := by
  have hg0 : 0 < g := by rw [← hg]; exact Nat.gcd_pos_of_pos_right _ (by omega)
  have hn : n.natAbs = t.natAbs * g := by rw [ht, Int.natAbs_mul, Int.natAbs_natCast]
  refine rat_of_mkRat hd ?_ (cop_of_gcd hg0 hg hn hl) ?_
  · rintro rfl; simp at hl; exact hd hl
  · rw [ht, hl, Int.natCast_mul]; grind
end Go.Proofs.YtmfnpipmbpnfbaaGreatDoor
namespace Go.Proofs.YtmfnpipmbpnfbaaGreatDoor
open Go.RowKit
def RetR (x : Rat) (w : World) (e : Ending) (w' : World) : Prop :=
  ∃ A n c B m d, e = .returned (.agg #[.bool (decide (x.num < 0)), .slice A n c, .bool false, .slice B m d]) ∧ D w' (.slice A n c) x.num.natAbs ∧ D w' (.slice B m d) x.den ∧ Below w.heap.size w w'
def sg (b : Bool) (n : Nat) : Int := if b then -1 else if n = 0 then 0 else 1
theorem signI_any (b : Bool) (A : Option Addr) (n c : Nat) (w : World) (hn : n ≤ 1000000) :
    Calls Tryz.prog 220 #[.agg #[.bool b, .slice A n c]] w fun e w' => e = .returned (.int .i64 (sg b n)) ∧ Below w.heap.size w w' := by
  cases b
  · by_cases h : n = 0
    · subst h
      go_enter Tryz.func220, Tryz.ntmps220
      go_wp2_with fail
      go_ret
      exact ⟨rfl, below_alloc w _⟩
    · have hb : ((n : Int) == 0) = false := by rw [beq_eq_false_iff_ne]; omega
      have hs : sg false n = 1 := by simp [sg, h]
      rw [hs]
      clear hs h
      go_enter Tryz.func220, Tryz.ntmps220
      go_wp2_with fail
      go_ret
      exact ⟨rfl, below_alloc w _⟩
  · go_enter Tryz.func220, Tryz.ntmps220
    go_wp2_with fail
    go_ret
    exact ⟨rfl, below_alloc w _⟩
theorem low_any (b : Bool) (A B : Option Addr) (n c m d : Nat) (w : World) (hm : 0 < m) (hm2 : m ≤ 1000000) :
    Calls Tryz.prog 189 #[.agg #[.bool b, .slice A n c, .bool false, .slice B m d]] w fun e w' => e = .returned (.agg #[.bool false, .slice B m d]) ∧ Below w.heap.size w w' := by
  have hs : sg false m = 1 := by simp [sg]; omega
  have HS : Hid (∀ wx, Calls Tryz.prog 220 #[.agg #[.bool false, .slice B m d]] wx fun e w' => e = .returned (.int .i64 1) ∧ Below wx.heap.size wx w') := fun wx => by
    rw [← hs]; exact signI_any false B m d wx hm2
  clear hs
  go_enter Tryz.func189, Tryz.ntmps189
  go_upto_region 1 with fail
  generalize hX : (w.alloc _).alloc _ = X
  have hXX : Below w.heap.size w X ∧ X.cell? ⟨w.heap.size, 2, none⟩ = some (.bool false) ∧ X.cell? ⟨w.heap.size, 3, none⟩ = some (.slice B m d) ∧ w.heap.size < X.heap.size ∧ Wr (w.heap.size + 1) 183 X := by
    subst hX
    exact ⟨((Below.refl _ _).alloc (Nat.le_refl _) _).alloc (by simp) _, by simp [go_sem], by simp [go_sem], by simp; omega, Wr.new _ _ _ 183 (by simp)⟩
  obtain ⟨hwX, k2, k3, hz, hW⟩ := hXX
  clear hX
  go_wp2_with fail
  (with_reducible refine (HS.out X).mono ?_)
  rintro e w1 ⟨rfl, hB⟩
  have l2 := (hB.cell (p := ⟨w.heap.size, 2, none⟩) hz).trans k2
  have l3 := (hB.cell (p := ⟨w.heap.size, 3, none⟩) hz).trans k3
  obtain ⟨⟨p1, p2, p3, p4⟩, p5, p6, p7⟩ := hW.keep hB
  have hw1 := hwX.trans (hB.mono hwX.size)
  clear k2 k3
  go_wp2_with fail
  exact bodyPost_ret (v := .agg #[.bool false, .slice B m d]) (by simp [results, Tryz.results189, go_sem, *]) rfl ⟨rfl, (hw1.setCell (by show w.heap.size ≤ w.heap.size + 1; omega) _).setCell (by show w.heap.size ≤ w.heap.size + 1; omega) _⟩
theorem top_any (b b2 : Bool) (A B : Option Addr) (n c m d : Nat) (w : World) :
    Calls Tryz.prog 187 #[.agg #[.bool b, .slice A n c, .bool b2, .slice B m d]] w fun e w' => e = .returned (.agg #[.bool b, .slice A n c]) ∧ Below w.heap.size w w' := by
  go_enter Tryz.func187, Tryz.ntmps187
  go_wp2_with fail
  exact bodyPost_ret (v := .agg #[.bool b, .slice A n c]) (by simp [results, Tryz.results187, go_sem]) rfl ⟨rfl, ((Below.refl _ _).alloc (Nat.le_refl _) _).alloc (by simp) _⟩
end Go.Proofs.YtmfnpipmbpnfbaaGreatDoor
