/- Integers of any size in memory: exact quotients, and the ones that fit. -/
import Derived.Test.YtfhmhkbjcccejaaMInt4
import Derived.Test.YtfhmhkbjcccejaaMDivI

namespace Go.Proofs.Ytfhmhkbjcccejaa
open Go.RowKit

theorem cmpI_le {x y : Int} (h : ¬ y < x) : ∃ r : Int, cmpI x y = r ∧ r ≤ 0 := by
  refine ⟨cmpI x y, rfl, ?_⟩
  unfold cmpI
  repeat' split
  all_goals omega

/-- The greatest number of a valid fraction. -/
def MaxN : Nat := 1152921504606846976
theorem MaxN_eq : MaxN = 1152921504606846976 := rfl
theorem word_max (w : World) : Calls Try.prog 68 #[.int .u64 1152921504606846976] w (RetD MaxN w) := word_any 1152921504606846976 w (by omega)

set_option maxRecDepth 100000 in
set_option maxHeartbeats 2000000 in
theorem limited_big (b : Bool) (A : Option Addr) (n c x : Nat) (w : World) (h : D w (.slice A n c) x) (hn : n ≤ 400000) (hx : MaxN < x) :
    Calls Try.prog 70 #[.agg #[.bool b, .slice A n c]] w fun e w' => e = .returned (.tuple #[.int .i64 0, .bool false]) ∧ Below w.heap.size w w' := by
  have HCI : Hid (cmpI (x : Int) (MaxN : Int) = 1) := cmpI_gt (by omega)
  have HC : Hid (∀ wb wx vB vm vd, Below w.heap.size w wb → D wb (.slice vB vm vd) MaxN → Drn wb wx → Calls Try.prog 88 #[.slice A n c, .slice vB vm vd] wx fun e w' => e = .returned (.int .i64 1) ∧ Drn wx w') := fun wb wx vB vm vd hb hd hx => by
    have := compD_any A vB n vm c vd x MaxN wx (hx.d (h.keep hb)) (hx.d hd) hn
    rw [HCI.out] at this; exact this
  clear h hx
  go_enter Try.func70, Try.ntmps70
  go_wp2_with fail
  have bb : Below w.heap.size w (w.alloc (.cells #[.bool b, .slice A n c] 55)) := below_alloc w _
  generalize hMM : (1152921504606846976 : Int) = MM
  have HWM : Hid (∀ wx, Calls Try.prog 68 #[.int .u64 MM] wx (RetD MaxN wx)) := fun wx => by rw [← hMM]; exact word_max wx
  clear hMM
  go_region_with (first
    | (go_at_call 68; (with_reducible refine (HWM.out _).mono ?_); rintro e w1 ⟨v, rfl, hD, hB⟩; obtain ⟨A1, n1, c1, rfl⟩ := hD.shape; (have hB1 : Below w.heap.size w w1 := bb.trans (Below.mono (by first | exact hB | exact below_undrew' hB) bb.size)); (have hcx := (Below.cell (by first | exact hB | exact below_undrew' hB) (p := ⟨w.heap.size, 1, none⟩) (by simp)).trans (show _ = some (Value.slice A n c) by simp [go_sem])))
    | (go_at_call 88; (with_reducible refine (HC.out w1 _ _ _ _ hB1 hD (by first | exact Drn.refl _ | exact (Drn.refl _).more1)).mono ?_); rintro e w2 ⟨rfl, hdr⟩; (have hB2 : Below w.heap.size w w2 := hB1.trans (Drn.below (by first | exact hdr | exact Drn.trans (Drn.more1 (Drn.refl _)) hdr) _))))
  all_goals simp only [Exit.then]
  all_goals go_simp
  all_goals go_wp2_with fail
  all_goals (go_ret2; exact ⟨rfl, hB2⟩)

set_option maxRecDepth 100000 in
set_option maxHeartbeats 2000000 in
theorem limited_false (A : Option Addr) (n c x : Nat) (w : World) (h : D w (.slice A n c) x) (hx : x ≤ MaxN) :
    Calls Try.prog 70 #[.agg #[.bool false, .slice A n c]] w fun e w' => e = .returned (.tuple #[.int .i64 ((x : Int)), .bool true]) ∧ Below w.heap.size w w' := by
  have hn : n ≤ 2 := h.len (by have e : W ^ 2 = 18446744073709551616 := by rw [W_eq]
                               rw [MaxN_eq] at hx
                               omega)
  obtain ⟨r, hr, hr0⟩ : ∃ r : Int, cmpI (x : Int) (MaxN : Int) = r ∧ r ≤ 0 := cmpI_le (by omega)
  have HC : Hid (∀ wb wx vB vm vd, Below w.heap.size w wb → D wb (.slice vB vm vd) MaxN → Drn wb wx → Calls Try.prog 88 #[.slice A n c, .slice vB vm vd] wx fun e w' => e = .returned (.int .i64 r) ∧ Drn wx w') := fun wb wx vB vm vd hb hd hx => by
    have := compD_any A vB n vm c vd x MaxN wx (hx.d (h.keep hb)) (hx.d hd) (by omega)
    rw [hr] at this; exact this
  have HWD : Hid (∀ wx, Below w.heap.size w wx → Calls Try.prog 89 #[.slice A n c] wx fun e w' => e = .returned (.int .u64 (x : Int)) ∧ wx = w') := fun wx hx => by
    obtain ⟨f, f1, f2, f3, f4, f5⟩ := (h.keep hx).open_
    rw [← f4]; exact wordm_any A n c f wx hn f5 f2
  have hr1 : decide (0 < r) = false := by simp; omega
  have hxs : x ≤ 1152921504606846976 := hx
  clear h hx hr
  go_enter Try.func70, Try.ntmps70
  go_wp2_with fail
  have bb : Below w.heap.size w (w.alloc (.cells #[.bool false, .slice A n c] 55)) := below_alloc w _
  generalize hMM : (1152921504606846976 : Int) = MM
  have HWM : Hid (∀ wx, Calls Try.prog 68 #[.int .u64 MM] wx (RetD MaxN wx)) := fun wx => by rw [← hMM]; exact word_max wx
  clear hMM
  go_region_with (first
    | (go_at_call 68; (with_reducible refine (HWM.out _).mono ?_); rintro e w1 ⟨v, rfl, hD, hB⟩; obtain ⟨A1, n1, c1, rfl⟩ := hD.shape; (have hB1 : Below w.heap.size w w1 := bb.trans (Below.mono (by first | exact hB | exact below_undrew' hB) bb.size)); (have hcx := (Below.cell (by first | exact hB | exact below_undrew' hB) (p := ⟨w.heap.size, 1, none⟩) (by simp)).trans (show _ = some (Value.slice A n c) by simp [go_sem])); (have hcz := (Below.cell (by first | exact hB | exact below_undrew' hB) (p := ⟨w.heap.size, 0, none⟩) (by simp)).trans (show _ = some (Value.bool false) by simp [go_sem])))
    | (go_at_call 88; (with_reducible refine (HC.out w1 _ _ _ _ hB1 hD (by first | exact Drn.refl _ | exact (Drn.refl _).more1)).mono ?_); rintro e w2 ⟨rfl, hdr⟩; (have hd2 : Drn w1 w2 := (by first | exact hdr | exact Drn.trans (Drn.more1 (Drn.refl _)) hdr)); (have hB2 : Below w.heap.size w w2 := hB1.trans (hd2.below _)); (have hcx2 := (hd2.cell ⟨w.heap.size, 1, none⟩).trans hcx); (have hcz2 := (hd2.cell ⟨w.heap.size, 0, none⟩).trans hcz)))
  all_goals simp only [Exit.then]
  all_goals go_simp
  all_goals go_wp2_with ((with_reducible refine (HWD.out _ hB2).mono ?_); rintro e w' ⟨rfl, rfl⟩)
  all_goals (go_ret2; exact ⟨rfl, hB2⟩)

set_option maxRecDepth 100000 in
set_option maxHeartbeats 2000000 in
theorem limited_true (A : Option Addr) (n c x : Nat) (w : World) (h : D w (.slice A n c) x) (hx : x ≤ MaxN) :
    Calls Try.prog 70 #[.agg #[.bool true, .slice A n c]] w fun e w' => e = .returned (.tuple #[.int .i64 (-(x : Int)), .bool true]) ∧ Below w.heap.size w w' := by
  have hn : n ≤ 2 := h.len (by have e : W ^ 2 = 18446744073709551616 := by rw [W_eq]
                               rw [MaxN_eq] at hx
                               omega)
  obtain ⟨r, hr, hr0⟩ : ∃ r : Int, cmpI (x : Int) (MaxN : Int) = r ∧ r ≤ 0 := cmpI_le (by omega)
  have HC : Hid (∀ wb wx vB vm vd, Below w.heap.size w wb → D wb (.slice vB vm vd) MaxN → Drn wb wx → Calls Try.prog 88 #[.slice A n c, .slice vB vm vd] wx fun e w' => e = .returned (.int .i64 r) ∧ Drn wx w') := fun wb wx vB vm vd hb hd hx => by
    have := compD_any A vB n vm c vd x MaxN wx (hx.d (h.keep hb)) (hx.d hd) (by omega)
    rw [hr] at this; exact this
  have HWD : Hid (∀ wx, Below w.heap.size w wx → Calls Try.prog 89 #[.slice A n c] wx fun e w' => e = .returned (.int .u64 (x : Int)) ∧ wx = w') := fun wx hx => by
    obtain ⟨f, f1, f2, f3, f4, f5⟩ := (h.keep hx).open_
    rw [← f4]; exact wordm_any A n c f wx hn f5 f2
  have hr1 : decide (0 < r) = false := by simp; omega
  have hxs : x ≤ 1152921504606846976 := hx
  clear h hx hr
  go_enter Try.func70, Try.ntmps70
  go_wp2_with fail
  have bb : Below w.heap.size w (w.alloc (.cells #[.bool true, .slice A n c] 55)) := below_alloc w _
  generalize hMM : (1152921504606846976 : Int) = MM
  have HWM : Hid (∀ wx, Calls Try.prog 68 #[.int .u64 MM] wx (RetD MaxN wx)) := fun wx => by rw [← hMM]; exact word_max wx
  clear hMM
  go_region_with (first
    | (go_at_call 68; (with_reducible refine (HWM.out _).mono ?_); rintro e w1 ⟨v, rfl, hD, hB⟩; obtain ⟨A1, n1, c1, rfl⟩ := hD.shape; (have hB1 : Below w.heap.size w w1 := bb.trans (Below.mono (by first | exact hB | exact below_undrew' hB) bb.size)); (have hcx := (Below.cell (by first | exact hB | exact below_undrew' hB) (p := ⟨w.heap.size, 1, none⟩) (by simp)).trans (show _ = some (Value.slice A n c) by simp [go_sem])); (have hcz := (Below.cell (by first | exact hB | exact below_undrew' hB) (p := ⟨w.heap.size, 0, none⟩) (by simp)).trans (show _ = some (Value.bool true) by simp [go_sem])))
    | (go_at_call 88; (with_reducible refine (HC.out w1 _ _ _ _ hB1 hD (by first | exact Drn.refl _ | exact (Drn.refl _).more1)).mono ?_); rintro e w2 ⟨rfl, hdr⟩; (have hd2 : Drn w1 w2 := (by first | exact hdr | exact Drn.trans (Drn.more1 (Drn.refl _)) hdr)); (have hB2 : Below w.heap.size w w2 := hB1.trans (hd2.below _)); (have hcx2 := (hd2.cell ⟨w.heap.size, 1, none⟩).trans hcx); (have hcz2 := (hd2.cell ⟨w.heap.size, 0, none⟩).trans hcz)))
  all_goals simp only [Exit.then]
  all_goals go_simp
  all_goals go_wp2_with ((with_reducible refine (HWD.out _ hB2).mono ?_); rintro e w' ⟨rfl, rfl⟩)
  all_goals (go_ret2; exact ⟨rfl, hB2⟩)

/-- exact.Int.limited, where the number fits. -/
theorem limited_small (b : Bool) (A : Option Addr) (n c x : Nat) (w : World) (h : D w (.slice A n c) x) (hx : x ≤ MaxN) :
    Calls Try.prog 70 #[.agg #[.bool b, .slice A n c]] w fun e w' => e = .returned (.tuple #[.int .i64 (sgn b x), .bool true]) ∧ Below w.heap.size w w' := by
  cases b
  · exact limited_false A n c x w h hx
  · exact limited_true A n c x w h hx

end Go.Proofs.Ytfhmhkbjcccejaa
