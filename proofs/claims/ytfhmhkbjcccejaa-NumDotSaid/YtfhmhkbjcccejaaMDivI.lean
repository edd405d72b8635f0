/- Division of integers of any size in memory. -/
import Derived.Test.YtfhmhkbjcccejaaMInt2
import Derived.Deep.RegionWith
import Derived.BigRegion

namespace Go.Proofs.Ytfhmhkbjcccejaa
open Go.RowKit

theorem retJJ_box {z z' : Int} {A A' : Option Addr} {n c n' c' g g' : Nat} {w w3 wf : World} {e : Ending} (he : e = .returned (.tuple #[.agg #[.bool (decide (z < 0)), .slice A n c], .agg #[.bool (decide (z' < 0)), .slice A' n' c']]))
    (hD : D w3 (.slice A n c) z.natAbs) (hD' : D w3 (.slice A' n' c') z'.natAbs) (hx : Bx w3 g 55) (hx' : Bx w3 g' 55) (hB : Below w.heap.size w w3) (hg : w.heap.size ≤ g) (hg' : w.heap.size ≤ g')
    (hw : Drn ((((w3.setCell ⟨g, 0, none⟩ (.bool (decide (z < 0)))).setCell ⟨g, 1, none⟩ (.slice A n c)).setCell ⟨g', 0, none⟩ (.bool (decide (z' < 0)))).setCell ⟨g', 1, none⟩ (.slice A' n' c')) wf) : RetJJ z z' w e wf := by
  have k1 : ∀ {v x}, D w3 v x → D wf v x := fun h => hw.d ((((h.set hx (by decide) _ _).set (hx.set _ _ _) (by decide) _ _).set ((hx'.set _ _ _).set _ _ _) (by decide) _ _).set (((hx'.set _ _ _).set _ _ _).set _ _ _) (by decide) _ _)
  exact ⟨A, n, c, A', n', c', he, k1 hD, k1 hD', ((((hB.setCell hg _).setCell hg _).setCell hg' _).setCell hg' _).trans (hw.below _)⟩

set_option maxRecDepth 100000 in
set_option maxHeartbeats 2000000 in
theorem divideI_any (b1 b2 : Bool) (A B : Option Addr) (n m c d x y : Nat) (w : World) (h1 : D w (.slice A n c) x) (h2 : D w (.slice B m d) y) (hn : n ≤ 999999) (hy : 0 < y) :
    Calls Try.prog 86 #[.agg #[.bool b1, .slice A n c], .agg #[.bool b2, .slice B m d]] w (RetJJ (sgn (!b1 == b2) (x / y)) (sgn b1 (x % y)) w) := by
  have HM : Hid (∀ wx, Below w.heap.size w wx → Calls Try.prog 102 #[.slice A n c, .slice B m d] wx (RetDiv x y wx)) := fun wx hx => divideD_any A B n m c d x y wx (h1.keep hx) (h2.keep hx) hn hy
  have HX : Hid (x / y < W ^ n) := Nat.lt_of_le_of_lt (Nat.div_le_self _ _) h1.pow
  have HY : Hid (x % y < W ^ n) := Nat.lt_of_le_of_lt (Nat.mod_le _ _) h1.pow
  clear h1 h2
  go_enter Try.func86, Try.ntmps86
  go_wp2_with fail
  generalize hX : (((w.alloc _).alloc _).alloc _).alloc _ = X
  have hXX : Below w.heap.size w X ∧ w.heap.size + 4 = X.heap.size ∧ Wr (w.heap.size + 1 + 1) 55 X ∧ Wr (w.heap.size + 1 + 1 + 1) 55 X ∧ Fr w.heap.size (.bool b1) (.slice A n c) (.bool b2) (.slice B m d) X := by
    subst hX
    exact ⟨((((Below.refl _ _).alloc (Nat.le_refl _) _).alloc (by simp) _).alloc (by simp; omega) _).alloc (by simp; omega) _, by simp, (Wr.new _ _ _ 55 (by simp)).keep (below_alloc _ _), Wr.new _ _ _ 55 (by simp), by simp [Fr, go_sem]⟩
  obtain ⟨hwX, hsX, hW2, hW3, hFr⟩ := hXX
  obtain ⟨i0, i1, i2, i3⟩ := hFr.out
  clear hX
  have HSX := Lib.hid hsX
  clear hsX
  go_wp2_with fail
  (with_reducible refine (HM.out _ hwX).mono ?_)
  rintro e w1 ⟨vq, vr, rfl, hDq, hDr, hB⟩
  obtain ⟨Aq, nq, cq, rfl⟩ := hDq.shape
  obtain ⟨Ar, nr, cr, rfl⟩ := hDr.shape
  have hnq := hDq.len HX.out
  have hnr := hDr.len HY.out
  have hFr1 := hFr.keep (by rw [← HSX.out]; omega) hB
  obtain ⟨j0, j1, j2, j3⟩ := hFr1.out
  clear i0 i1 i2 i3
  have hz1 : w.heap.size + 1 < w1.heap.size := by have := hB.size; have := HSX.out; omega
  have hw1 := hwX.trans (hB.mono hwX.size)
  go_wp2_with fail
  go_region_with (first
      | (go_at_call 84; (with_reducible refine (signed_any (!b1 == b2) Aq nq cq (x / y) _ (by first | exact hDq | exact hDq.drew) (by omega)).mono ?_); rintro e w2 ⟨A2, n2, c2, rfl, hD2, hB2⟩; have hB2 : Below w1.heap.size w1 w2 := (by first | exact hB2 | exact below_undrew' hB2); have hFr2 := hFr1.keep hz1 hB2; have hDr2 := hDr.keep hB2; have hw2 := hw1.trans (hB2.mono hw1.size); have hz2 := Nat.lt_of_lt_of_le hz1 hB2.size; obtain ⟨l0, l1, l2, l3⟩ := hFr2.out)
      | (go_at_call 84; (with_reducible refine (signed_any b1 Ar nr cr (x % y) _ (by first | exact hDr2 | exact hDr2.drew) (by omega)).mono ?_); rintro e w3 ⟨A3, n3, c3, rfl, hD3, hB3⟩; have hB3 : Below w2.heap.size w2 w3 := (by first | exact hB3 | exact below_undrew' hB3); have hFr3 := hFr2.keep hz2 hB3; have hD23 := hD2.keep hB3; have hw3 := hw2.trans (hB3.mono hw2.size); obtain ⟨m0, m1, m2, m3⟩ := hFr3.out; obtain ⟨⟨p1, p2, p3, p4⟩, p5, p6, p7⟩ := ((hW2.keep hB).keep hB2).keep hB3; obtain ⟨⟨o1, o2, o3, o4⟩, o5, o6, o7⟩ := ((hW3.keep hB).keep hB2).keep hB3))
  all_goals go_wp2_with fail
  all_goals exact bodyPost_ret (v := .tuple #[.agg #[.bool (decide (sgn (!b1 == b2) (x / y) < 0)), .slice A2 n2 c2], .agg #[.bool (decide (sgn b1 (x % y) < 0)), .slice A3 n3 c3]]) (by simp [results, Try.results86, go_sem, *]) rfl (retJJ_box rfl hD23 hD3 p7 o7 hw3 (by omega) (by omega) (by first | exact ⟨0, rfl⟩ | exact ⟨1, rfl⟩ | exact ⟨2, rfl⟩))

end Go.Proofs.Ytfhmhkbjcccejaa
