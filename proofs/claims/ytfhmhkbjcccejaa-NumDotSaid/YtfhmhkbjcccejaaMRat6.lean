/- The difference and the quotient of fractions of any size in memory. -/
import Derived.Test.YtfhmhkbjcccejaaMRat5

namespace Go.Proofs.Ytfhmhkbjcccejaa
open Go.RowKit

theorem RetR.q {x : Rat} {A B : Option Addr} {n c m d : Nat} {w : World} (h1 : D w (.slice A n c) x.num.natAbs) (h2 : D w (.slice B m d) x.den) : Q w (decide (x.num < 0)) (.slice A n c) (.slice B m d) x := ⟨rfl, h1, h2⟩

set_option maxRecDepth 100000 in
set_option maxHeartbeats 8000000 in
theorem subR_any (b1 b2 : Bool) (A B A' B' : Option Addr) (n c m d n' c' m' d' : Nat) (x y : Rat) (w : World) (hx : Q w b1 (.slice A n c) (.slice B m d) x) (hy : Q w b2 (.slice A' n' c') (.slice B' m' d') y)
    (hn : n ≤ 50000) (hm : m ≤ 50000) (hn' : n' ≤ 50000) (hm' : m' ≤ 50000) (hy2 : y.den < 18446744073709551616) :
    Calls Try.prog 56 #[.agg #[.bool b1, .slice A n c, .bool false, .slice B m d], .agg #[.bool b2, .slice A' n' c', .bool false, .slice B' m' d']] w (RetR (x - y) w) := by
  have HN : Hid (∀ wx, Below w.heap.size w wx → Calls Try.prog 81 #[.agg #[.bool b2, .slice A' n' c', .bool false, .slice B' m' d']] wx (RetR (-y) wx)) := fun wx hb => negR_any b2 A' B' n' c' m' d' y wx (hy.keep hb) (by omega)
  have HA : Hid (∀ wx A1 n1 c1 B1 m1 d1, Below w.heap.size w wx → D wx (.slice A1 n1 c1) (-y).num.natAbs → D wx (.slice B1 m1 d1) (-y).den → Calls Try.prog 55 #[.agg #[.bool b1, .slice A n c, .bool false, .slice B m d], .agg #[.bool (decide ((-y).num < 0)), .slice A1 n1 c1, .bool false, .slice B1 m1 d1]] wx (RetR (x - y) wx)) := fun wx A1 n1 c1 B1 m1 d1 hb h1 h2 => by
    have e1 : n1 ≤ n' := h1.len (by rw [Rat.neg_num, Int.natAbs_neg]; exact hy.2.1.pow)
    have e2 : m1 ≤ m' := h2.len (by rw [Rat.neg_den]; exact hy.2.2.pow)
    rw [Rat.sub_eq_add_neg]
    exact addR_any b1 _ A B A1 B1 n c m d n1 c1 m1 d1 x (-y) wx (hx.keep hb) (RetR.q h1 h2) hn hm (by omega) (by omega) (by rw [Rat.neg_den]; exact hy2)
  generalize -y = y' at HN HA
  generalize x - y = z at HA ⊢
  clear hx hy hn hm hn' hm' hy2
  go_enter Try.func56, Try.ntmps56
  go_upto_region 1 with fail
  generalize hX : ((w.alloc _).alloc _).alloc _ = X
  have hXX : Below w.heap.size w X ∧ w.heap.size + 3 = X.heap.size ∧ Wr4 (w.heap.size + 1 + 1) 57 X ∧ B4 w.heap.size (.bool b1) (.slice A n c) (.bool false) (.slice B m d) X ∧ B4 (w.heap.size + 1) (.bool b2) (.slice A' n' c') (.bool false) (.slice B' m' d') X := by
    subst hX
    obtain ⟨f1, f2, f3⟩ := frame4 w (.bool b1) (.slice A n c) (.bool false) (.slice B m d) (.bool b2) (.slice A' n' c') (.bool false) (.slice B' m' d') (.bool false) (.slice none 0 0) (.bool false) (.slice none 0 0)
    exact ⟨f1, f2, f3, by simp [B4, go_sem], by simp [B4, go_sem]⟩
  obtain ⟨hwX, hsX, hWX, K4, K4'⟩ := hXX
  have za : w.heap.size < X.heap.size := by omega
  have zb : w.heap.size + 1 < X.heap.size := by omega
  clear hX hsX
  obtain ⟨k0, k1, k2, k3⟩ := K4
  obtain ⟨j0, j1, j2, j3⟩ := K4'
  go_region_held3 (fun w' => w'.cell? ⟨w.heap.size, 0, none⟩ = some (.bool b1) ∧ w'.cell? ⟨w.heap.size, 1, none⟩ = some (.slice A n c) ∧ w'.cell? ⟨w.heap.size, 2, none⟩ = some (.bool false) ∧ w'.cell? ⟨w.heap.size, 3, none⟩ = some (.slice B m d) ∧ w'.cell? ⟨w.heap.size + 1, 0, none⟩ = some (.bool b2) ∧ w'.cell? ⟨w.heap.size + 1, 1, none⟩ = some (.slice A' n' c') ∧ w'.cell? ⟨w.heap.size + 1, 2, none⟩ = some (.bool false) ∧ w'.cell? ⟨w.heap.size + 1, 3, none⟩ = some (.slice B' m' d')) (simp [go_sem, *])
    (first
      | (go_at_call 81; (with_reducible refine (HN.out _ (by repeat (first | exact hwX | refine Below.drew ?_ | refine Below.alloc ?_ (Below.size hwX) _))).mono ?_); rintro e w1 ⟨A1, n1, c1, B1, m1, d1, rfl, hDn, hDd, hB1⟩; (have R1 : Below X.heap.size X w1 := stepB (by repeat (first | exact Below.refl _ _ | refine Below.drew ?_ | refine Below.alloc ?_ (Nat.le_refl _) _)) hB1); (have S1 : Below X.heap.size X w1 := stepB (by repeat (first | exact Below.refl _ _ | refine Below.drew ?_ | refine Below.alloc ?_ (Nat.le_refl _) _)) hB1); have C1 := (bcell R1).1; have W1 := hwX.trans (R1.mono (Below.size hwX)); have v1a := Nat.lt_of_lt_of_le za R1.size; have v1b := Nat.lt_of_lt_of_le zb R1.size; (try (have hwr := (Wr.new _ (.bool false) (.slice none 0 0) 55 rfl).keep hB1)); (try (have hwr := (Wr.new _ (.bool false) (.slice none 0 0) 55 rfl).keep (below_undrew' hB1))))
      | (go_at_call 55; (with_reducible refine (HA.out _ A1 n1 c1 B1 m1 d1 (by repeat (first | exact W1 | refine Below.drew ?_ | refine Below.alloc ?_ (Below.size W1) _)) (by repeat (first | exact hDn | refine D.drew ?_ | refine D.keep ?_ (below_alloc _ _))) (by repeat (first | exact hDd | refine D.drew ?_ | refine D.keep ?_ (below_alloc _ _)))).mono ?_); rintro e w2 ⟨A2, n2, c2, B2, m2, d2, rfl, hE1, hE2, hB2⟩; (have R2 : Below X.heap.size X w2 := stepB (by repeat (first | exact R1 | refine Below.drew ?_ | refine Below.alloc ?_ (Below.size R1) _)) hB2); (have S2 : Below w1.heap.size w1 w2 := stepB (by repeat (first | exact Below.refl _ _ | refine Below.drew ?_ | refine Below.alloc ?_ (Nat.le_refl _) _)) hB2); have C2 := (bcell R2).1; have W2 := hwX.trans (R2.mono (Below.size hwX)); have v2a := Nat.lt_of_lt_of_le za R2.size; have v2b := Nat.lt_of_lt_of_le zb R2.size; (try (have hwr := hwr.keep S2)); (try (have hwr := (Wr.new _ (.bool false) (.slice none 0 0) 55 rfl).keep hB2)); (try (have hwr := (Wr.new _ (.bool false) (.slice none 0 0) 55 rfl).keep (below_undrew' hB2))); obtain ⟨⟨o1, o2, o3, o4, o5, o6, o7, o8⟩, q1, q2, q3, q4, q5⟩ := hWX.keep R2))
  all_goals go_wp2_with fail
  exact bodyPost_ret (v := .agg #[.bool (decide (z.num < 0)), .slice A2 n2 c2, .bool false, .slice B2 m2 d2]) (by simp [results, Try.results56, go_sem, o5, o6, o7, o8]) rfl (retR_box' rfl hE1 hE2 q5 W2 (by omega))

end Go.Proofs.Ytfhmhkbjcccejaa
