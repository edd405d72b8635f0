/- The sum of products of two lists of numbers, as a fraction of any size in memory. -/
import Derived.Test.YtmfnpipmbpnfbaaGreatDoorF26
import Derived.Test.YtmfnpipmbpnfbaaGreatDoorF23

set_option maxRecDepth 100000
set_option maxHeartbeats 40000000
namespace Go.Proofs.YtmfnpipmbpnfbaaGreatDoor
open Go.RowKit
theorem RetR.long {x : Rat} {w : World} {e : Ending} {w' : World} (h : RetR x w e w') (hx : x.num.natAbs < W ^ 1000 ∧ x.den < W ^ 1000) :
    ∃ A n c B m d, e = .returned (.agg #[.bool (decide (x.num < 0)), .slice A n c, .bool false, .slice B m d]) ∧ Q w' (decide (x.num < 0)) (.slice A n c) (.slice B m d) x ∧ n ≤ 1000 ∧ m ≤ 1000 ∧ Below w.heap.size w w' := by
  obtain ⟨A, n, c, B, m, d, rfl, h1, h2, h3⟩ := h
  exact ⟨A, n, c, B, m, d, rfl, RetR.q h1 h2, h1.len hx.1, h2.len hx.2, h3⟩
def Pr (t l t' l' : Nat → Int) (i : Nat) : Rat := fr (t i) (l i) * fr (t' i) (l' i)
theorem dot_one (A B : Option Addr) (ca cb : Nat) (t l t' l' : Nat → Int) (w : World) (hA : Lnum w A 1 t l) (hB : Lnum w B 1 t' l') (hv : vld (t 0) (l 0) = true) (hv' : vld (t' 0) (l' 0) = true) :
    Calls Tryz.prog 151 #[.slice A 1 ca, .slice B 1 cb] w (RetR (Pr t l t' l' 0) w) := by
  obtain ⟨b, off, rfl, hb, hcA⟩ := hA (by omega)
  obtain ⟨b', off', rfl, hb', hcB⟩ := hB (by omega)
  obtain ⟨a0, a1⟩ := hcA 0 (by omega)
  obtain ⟨a2, a3⟩ := hcB 0 (by omega)
  obtain ⟨x, hx1, hx2, hx3⟩ := vld_rat hv
  obtain ⟨y, hy1, hy2, hy3⟩ := vld_rat hv'
  have e : Pr t l t' l' 0 = x * y := by unfold Pr; rw [hx3, hy3]
  rw [e]
  rw [← hx1] at a0
  rw [← hx2] at a1
  rw [← hy1] at a2
  rw [← hy2] at a3
  have lx := vld_le (x := x) (by rw [hx1, hx2]; exact hv)
  have ly := vld_le (x := y) (by rw [hy1, hy2]; exact hv')
  have HX : Hid (∀ wx, Calls Tryz.prog 184 #[.agg #[.int .i64 x.num, .int .i64 (x.den : Int)]] wx (RetR x wx)) := fun wx => of_any x wx (by omega) (by omega) (by omega)
  have HY : Hid (∀ wx, Calls Tryz.prog 184 #[.agg #[.int .i64 y.num, .int .i64 (y.den : Int)]] wx (RetR y wx)) := fun wx => of_any y wx (by omega) (by omega) (by omega)
  have HM : Hid (∀ wx b1 A1 n1 c1 B1 m1 d1 b2 A2 n2 c2 B2 m2 d2, Q wx b1 (.slice A1 n1 c1) (.slice B1 m1 d1) x → Q wx b2 (.slice A2 n2 c2) (.slice B2 m2 d2) y →
      Calls Tryz.prog 185 #[.agg #[.bool b1, .slice A1 n1 c1, .bool false, .slice B1 m1 d1], .agg #[.bool b2, .slice A2 n2 c2, .bool false, .slice B2 m2 d2]] wx (RetR (x * y) wx)) := fun wx b1 A1 n1 c1 B1 m1 d1 b2 A2 n2 c2 B2 m2 d2 h1 h2 =>
    mulR_any b1 b2 A1 B1 A2 B2 n1 c1 m1 d1 n2 c2 m2 d2 x y wx h1 h2 (by have := len2 h1.2.1 lx.1; omega) (by have := len2 h1.2.2 lx.2; omega) (by have := len2 h2.2.1 ly.1; omega) (by have := len2 h2.2.2 ly.2; omega) (by omega) (by omega)
  clear e hx1 hx2 hx3 hy1 hy2 hy3 lx ly hv hv' hA hB hcA hcB
  generalize x * y = z at HM ⊢
  rw [Nat.zero_mul, Nat.add_zero] at a0 a1 a2 a3
  go_enter Tryz.func151, Tryz.ntmps151
  go_wp2_with fail
  generalize hX : w.alloc _ = X
  have hwX : Below w.heap.size w X := by rw [← hX]; exact below_alloc _ _
  have hWX : Wr4 w.heap.size 185 X := by rw [← hX]; exact Wr4.new _ _ _ _ _ 185 rfl
  replace a0 := (hwX.cell (p := ⟨b, off, none⟩) hb).trans a0
  replace a1 := (hwX.cell (p := ⟨b, off + 1, none⟩) hb).trans a1
  replace a2 := (hwX.cell (p := ⟨b', off', none⟩) hb').trans a2
  replace a3 := (hwX.cell (p := ⟨b', off' + 1, none⟩) hb').trans a3
  have zb := Nat.lt_of_lt_of_le hb hwX.size
  have zb' := Nat.lt_of_lt_of_le hb' hwX.size
  have nb : b ≠ w.heap.size := by omega
  have nb' : b' ≠ w.heap.size := by omega
  clear hX
  have HWX := Lib.hid hWX
  have HwX := Lib.hid hwX
  clear hWX hwX hb hb'
  go_region_held3 (fun w' => w'.cell? ⟨b, off, none⟩ = some (.int .i64 x.num) ∧ w'.cell? ⟨b, off + 1, none⟩ = some (.int .i64 (x.den : Int)) ∧ w'.cell? ⟨b', off', none⟩ = some (.int .i64 y.num) ∧ w'.cell? ⟨b', off' + 1, none⟩ = some (.int .i64 (y.den : Int))) (simp [go_sem, *])
    (first
      | (go_at_call 184; (with_reducible refine (HX.out _).mono ?_); rintro e w1 ⟨A1, n1, c1, B1, m1, d1, rfl, hQ1, hQ1', hB1⟩; (have R1 : Below X.heap.size X w1 := stepB (by repeat (first | exact Below.refl _ _ | refine Below.drew ?_)) hB1); (have C1 := (bcell R1).1); (have v1 := Nat.lt_of_lt_of_le zb R1.size); (have v1' := Nat.lt_of_lt_of_le zb' R1.size))
      | (go_at_call 184; (with_reducible refine (HY.out _).mono ?_); rintro e w2 ⟨A2, n2, c2, B2, m2, d2, rfl, hQ2, hQ2', hB2⟩; (have R2 : Below X.heap.size X w2 := stepB (by repeat (first | exact R1 | refine Below.drew ?_)) hB2); (have S2 : Below w1.heap.size w1 w2 := stepB (by repeat (first | exact Below.refl _ _ | refine Below.drew ?_)) hB2); (have C2 := (bcell R2).1); (have v2 := Nat.lt_of_lt_of_le zb R2.size); (have v2' := Nat.lt_of_lt_of_le zb' R2.size))
      | (go_at_call 185; (with_reducible refine (HM.out _ _ _ _ _ _ _ _ _ _ _ _ _ _ _ (by repeat (first | exact (RetR.q hQ1 hQ1').keep S2 | refine Q.keep ?_ (Below.drew (Below.refl _ _)))) (by repeat (first | exact RetR.q hQ2 hQ2' | refine Q.keep ?_ (Below.drew (Below.refl _ _))))).mono ?_); rintro e w3 ⟨A3, n3, c3, B3, m3, d3, rfl, hQ3, hQ3', hB3⟩; (have R3 : Below X.heap.size X w3 := stepB (by repeat (first | exact R2 | refine Below.drew ?_)) hB3); (have C3 := (bcell R3).1); (have v3 := Nat.lt_of_lt_of_le zb R3.size); (have v3' := Nat.lt_of_lt_of_le zb' R3.size); (have hW3 := HWX.out.keep R3); obtain ⟨⟨p1, p2, p3, p4, q1, q2, q3, q4⟩, f1, f2, f3, f4, hbx⟩ := id hW3))
  go_wp2_with fail
  exact bodyPost_ret (v := .agg #[.bool (decide (z.num < 0)), .slice A3 n3 c3, .bool false, .slice B3 m3 d3]) (by simp [results, Tryz.results151, go_sem, *]) rfl
    (retR_box hQ3 hQ3' hbx (HwX.out.trans (R3.mono HwX.out.size)) (Nat.le_refl _) (Drn.refl _))
theorem Lnum.take {w : World} {A : Option Addr} {n k : Nat} {t l : Nat → Int} (h : Lnum w A n t l) (hk : k ≤ n) : Lnum w A k t l := fun h0 => by
  obtain ⟨b, off, e, hb, hc⟩ := h (by omega)
  exact ⟨b, off, e, hb, fun i hi => hc i (by omega)⟩
theorem Lnum.drop {w : World} {b off n k : Nat} {t l : Nat → Int} (h : Lnum w (some ⟨b, off, none⟩) n t l) : Lnum w (some ⟨b, off + k * 2, none⟩) (n - k) (fun i => t (k + i)) (fun i => l (k + i)) := fun h0 => by
  obtain ⟨b', off', e, hb, hc⟩ := h (by omega)
  injection e with e
  injection e with e1 e2
  subst e1 e2
  refine ⟨b, _, rfl, hb, fun i hi => ?_⟩
  have := hc (k + i) (by omega)
  rw [Nat.add_mul, ← Nat.add_assoc] at this
  exact this
def DotOk (n : Nat) : Prop := ∀ (A B : Option Addr) (ca cb : Nat) (t l t' l' : Nat → Int) (w : World), Lnum w A n t l → Lnum w B n t' l' → (∀ i, i < n → vld (t i) (l i) = true) → (∀ i, i < n → vld (t' i) (l' i) = true) → n ≤ ca → n ≤ cb →
  Calls Tryz.prog 151 #[.slice A n ca, .slice B n cb] w (RetR (sumQ (Pr t l t' l') n) w)
theorem pr_bd {t l t' l' : Nat → Int} {i : Nat} (hv : vld (t i) (l i) = true) (hv' : vld (t' i) (l' i) = true) : Bd (Pr t l t' l' i) (2 ^ 120) (2 ^ 120) := by
  obtain ⟨x, hx1, hx2, hx3⟩ := vld_rat hv
  obtain ⟨y, hy1, hy2, hy3⟩ := vld_rat hv'
  unfold Pr
  rw [hx3, hy3]
  exact Bd.prod (by rw [hx1, hx2]; exact hv) (by rw [hy1, hy2]; exact hv')
theorem dot_many (n h : Nat) (hn : n ≤ 200) (h2 : 2 ≤ n) (hh : h = n / 2) (ih : DotOk h) (ih' : DotOk (n - h)) : DotOk n := by
  intro A B ca cb t l t' l' w hA hB hv hv' hca hcb
  obtain ⟨b, off, rfl, hb, -⟩ := hA (by omega)
  obtain ⟨b', off', rfl, hb', -⟩ := hB (by omega)
  obtain ⟨x, hx⟩ : ∃ x, sumQ (Pr t l t' l') h = x := ⟨_, rfl⟩
  obtain ⟨y, hy⟩ : ∃ y, sumQ (Pr (fun i => t (h + i)) (fun i => l (h + i)) (fun i => t' (h + i)) (fun i => l' (h + i))) (n - h) = y := ⟨_, rfl⟩
  have hz : sumQ (Pr t l t' l') n = x + y := by
    have := sumQ_split (Pr t l t' l') h (n - h)
    rw [show h + (n - h) = n from by omega] at this
    rw [this, hx, ← hy]
    rfl
  have HX : Hid (∀ wx, Below w.heap.size w wx → Calls Tryz.prog 151 #[.slice (some ⟨b, off, none⟩) h ca, .slice (some ⟨b', off', none⟩) h cb] wx (RetR x wx)) := fun wx hx' => by
    have := ih (some ⟨b, off, none⟩) (some ⟨b', off', none⟩) ca cb t l t' l' wx ((hA.take (by omega)).keep hx') ((hB.take (by omega)).keep hx') (fun i hi => hv i (by omega)) (fun i hi => hv' i (by omega)) (by omega) (by omega)
    rw [hx] at this
    exact this
  have HY : Hid (∀ wx, Below w.heap.size w wx → Calls Tryz.prog 151 #[.slice (some ⟨b, off + h * 2, none⟩) (n - h) (ca - h), .slice (some ⟨b', off' + h * 2, none⟩) (n - h) (cb - h)] wx (RetR y wx)) := fun wx hx' => by
    have := ih' (some ⟨b, off + h * 2, none⟩) (some ⟨b', off' + h * 2, none⟩) (ca - h) (cb - h) _ _ _ _ wx (hA.drop (k := h) |>.keep hx') (hB.drop (k := h) |>.keep hx') (fun i hi => hv (h + i) (by omega)) (fun i hi => hv' (h + i) (by omega)) (by omega) (by omega)
    rw [hy] at this
    exact this
  have lx : x.num.natAbs < W ^ 1000 ∧ x.den < W ^ 1000 := by
    rw [← hx]
    exact Bd.dot (by omega) fun i hi => pr_bd (hv i (by omega)) (hv' i (by omega))
  have ly : y.num.natAbs < W ^ 1000 ∧ y.den < W ^ 1000 := by
    rw [← hy]
    exact Bd.dot (by omega) fun i hi => pr_bd (hv (h + i) (by omega)) (hv' (h + i) (by omega))
  have HM : Hid (∀ wx b1 A1 n1 c1 B1 m1 d1 b2 A2 n2 c2 B2 m2 d2, Q wx b1 (.slice A1 n1 c1) (.slice B1 m1 d1) x → Q wx b2 (.slice A2 n2 c2) (.slice B2 m2 d2) y →
      Calls Tryz.prog 186 #[.agg #[.bool b1, .slice A1 n1 c1, .bool false, .slice B1 m1 d1], .agg #[.bool b2, .slice A2 n2 c2, .bool false, .slice B2 m2 d2]] wx (RetR (x + y) wx)) := fun wx b1 A1 n1 c1 B1 m1 d1 b2 A2 n2 c2 B2 m2 d2 h1 h2 =>
    addR_all b1 b2 A1 B1 A2 B2 n1 c1 m1 d1 n2 c2 m2 d2 x y wx h1 h2 (by have := h1.2.1.len lx.1; omega) (by have := h1.2.2.len lx.2; omega) (by have := h2.2.1.len ly.1; omega) (by have := h2.2.2.len ly.2; omega)
  rw [hz]
  clear hz hx hy lx ly hA hB hv hv' ih ih' hb hb'
  generalize x + y = z at HM ⊢
  have hn0 : ((n : Int) == 0) = false := by rw [beq_eq_false_iff_ne]; omega
  have hn1 : ((n : Int) == 1) = false := by rw [beq_eq_false_iff_ne]; omega
  have hq : (n : Int) / 2 = (h : Int) := by omega
  have hi1 : (h : Int) ≤ (n : Int) := by omega
  have hi2 : (n : Int) ≤ (ca : Int) := by omega
  have hi3 : (n : Int) ≤ (cb : Int) := by omega
  have hi4 : (h : Int) ≤ (ca : Int) := by omega
  have hi5 : (h : Int) ≤ (cb : Int) := by omega
  have hi6 : ¬ ca = h := by omega
  have hi7 : ¬ cb = h := by omega
  clear hh h2
  go_enter Tryz.func151, Tryz.ntmps151
  go_wp2_with fail
  generalize hX : w.alloc _ = X
  have hwX : Below w.heap.size w X := by rw [← hX]; exact below_alloc _ _
  have hWX : Wr4 w.heap.size 185 X := by rw [← hX]; exact Wr4.new _ _ _ _ _ 185 rfl
  clear hX
  have HWX := Lib.hid hWX
  have HwX := Lib.hid hwX
  clear hWX hwX
  obtain ⟨-, gf1, gf2, gf3, gf4, hbX⟩ := id HWX.out
  have zX : w.heap.size < X.heap.size := by obtain ⟨cs, fr, hc⟩ := hbX; exact lt_of_heap hc
  clear hbX
  go_region_held3 (fun w' => w'.frozen? ⟨w.heap.size, 0, none⟩ = false ∧ w'.frozen? ⟨w.heap.size, 1, none⟩ = false) (simp [go_sem, *])
    (first
      | (go_at_call 151; (with_reducible refine (HX.out _ (by repeat (first | exact HwX.out | refine Below.drew ?_))).mono ?_); rintro e w1 ⟨A1, n1, c1, B1, m1, d1, rfl, hQ1, hQ1', hB1⟩; (have R1 : Below X.heap.size X w1 := stepB (by repeat (first | exact Below.refl _ _ | refine Below.drew ?_)) hB1); (have C1 := (bcell R1).2); (have v1 := Nat.lt_of_lt_of_le zX R1.size); (have T1 := HwX.out.trans (R1.mono HwX.out.size)))
      | (go_at_call 151; (with_reducible refine (HY.out _ (by repeat (first | exact T1 | refine Below.drew ?_))).mono ?_); rintro e w2 ⟨A2, n2, c2, B2, m2, d2, rfl, hQ2, hQ2', hB2⟩; (have R2 : Below X.heap.size X w2 := stepB (by repeat (first | exact R1 | refine Below.drew ?_)) hB2); (have C2 := (bcell R2).2); (have v2 := Nat.lt_of_lt_of_le zX R2.size); (have S2 : Below w1.heap.size w1 w2 := stepB (by repeat (first | exact Below.refl _ _ | refine Below.drew ?_)) hB2))
      | (go_at_call 186; (with_reducible refine (HM.out _ _ _ _ _ _ _ _ _ _ _ _ _ _ _ (by repeat (first | exact (RetR.q hQ1 hQ1').keep S2 | refine Q.keep ?_ (Below.drew (Below.refl _ _)))) (by repeat (first | exact RetR.q hQ2 hQ2' | refine Q.keep ?_ (Below.drew (Below.refl _ _))))).mono ?_); rintro e w3 ⟨A3, n3, c3, B3, m3, d3, rfl, hQ3, hQ3', hB3⟩; (have R3 : Below X.heap.size X w3 := stepB (by repeat (first | exact R2 | refine Below.drew ?_)) hB3); (have hW3 := HWX.out.keep R3); obtain ⟨⟨p1, p2, p3, p4, q1, q2, q3, q4⟩, f1, f2, f3, f4, hbx⟩ := id hW3))
  go_wp2_with fail
  exact bodyPost_ret (v := .agg #[.bool (decide (z.num < 0)), .slice A3 n3 c3, .bool false, .slice B3 m3 d3]) (by simp [results, Tryz.results151, go_sem, *]) rfl
    (retR_box hQ3 hQ3' hbx (HwX.out.trans (R3.mono HwX.out.size)) (Nat.le_refl _) (Drn.refl _))
theorem dot_any : ∀ n, 0 < n → n ≤ 200 → DotOk n := by
  intro n
  induction n using Nat.strongRecOn with
  | ind n ih =>
    intro h0 h1
    by_cases h2 : n = 1
    · subst h2
      intro A B ca cb t l t' l' w hA hB hv hv' _ _
      rw [sumQ_one]
      exact dot_one A B ca cb t l t' l' w hA hB (hv 0 (by omega)) (hv' 0 (by omega))
    · exact dot_many n (n / 2) h1 (by omega) rfl (ih (n / 2) (by omega) (by omega) (by omega)) (ih (n - n / 2) (by omega) (by omega) (by omega))
theorem unsigned_any (x : Nat) (w : World) (hx : x < 18446744073709551616) :
    Calls Tryz.prog 221 #[.int .u64 (x : Int)] w (RetN x w) := by
  have HW := Lib.hid (fun wx => word_any x wx hx)
  clear hx
  go_enter Tryz.func221, Tryz.ntmps221
  go_upto_region 1 with fail
  generalize hX : w.alloc _ = X
  have hXX : Below w.heap.size w X ∧ Wr w.heap.size 183 X := by
    subst hX
    exact ⟨(Below.refl _ _).alloc (Nat.le_refl _) _, Wr.new _ _ _ 183 rfl⟩
  obtain ⟨hwX, hW⟩ := hXX
  clear hX
  have HWX := Lib.hid hW
  have HwX := Lib.hid hwX
  clear hW hwX
  go_wp2_with fail
  (with_reducible refine (HW.out _).mono ?_)
  rintro e w1 ⟨v, rfl, hD, hB⟩
  obtain ⟨A1, n1, c1, rfl⟩ := hD.shape
  obtain ⟨⟨p1, p2, p3, p4⟩, p5, p6, p7⟩ := HWX.out.keep hB
  have HB := Lib.hid (HwX.out.trans (hB.mono HwX.out.size))
  clear hB
  go_wp2_with fail
  exact bodyPost_ret (v := .agg #[.bool false, .slice A1 n1 c1]) (by simp [results, Tryz.results221, go_sem, *]) rfl
    (RetN.of (retJ_box (by simp) (by simpa using hD) p7 HB.out (Nat.le_refl _)))
theorem low_zero (w : World) :
    Calls Tryz.prog 189 #[.agg #[.bool false, .slice none 0 0, .bool false, .slice none 0 0]] w (RetN 1 w) := by
  have HS : Hid (∀ wx, Calls Tryz.prog 220 #[.agg #[.bool false, .slice none 0 0]] wx fun e w' => e = .returned (.int .i64 0) ∧ Below wx.heap.size wx w') := fun wx => signI_any false none 0 0 wx (by omega)
  have HU : Hid (∀ wx, Calls Tryz.prog 221 #[.int .u64 1] wx (RetN 1 wx)) := fun wx => unsigned_any 1 wx (by omega)
  go_enter Tryz.func189, Tryz.ntmps189
  go_upto_region 1 with fail
  generalize hX : (w.alloc _).alloc _ = X
  have hXX : Below w.heap.size w X ∧ X.cell? ⟨w.heap.size, 2, none⟩ = some (.bool false) ∧ X.cell? ⟨w.heap.size, 3, none⟩ = some (.slice none 0 0) ∧ w.heap.size < X.heap.size ∧ Wr (w.heap.size + 1) 183 X := by
    subst hX
    exact ⟨((Below.refl _ _).alloc (Nat.le_refl _) _).alloc (by simp) _, by simp [go_sem], by simp [go_sem], by simp; omega, Wr.new _ _ _ 183 (by simp)⟩
  obtain ⟨hwX, k2, k3, hz, hW⟩ := hXX
  clear hX
  have HWX := Lib.hid hW
  have HwX := Lib.hid hwX
  clear hW hwX
  go_wp2_with fail
  (with_reducible refine (HS.out X).mono ?_)
  rintro e w1 ⟨rfl, hB⟩
  have W1 := Lib.hid (HWX.out.keep hB)
  have B1 := Lib.hid (HwX.out.trans (hB.mono HwX.out.size))
  clear k2 k3 hB hz
  go_wp2_with fail
  (with_reducible refine (HU.out w1).mono ?_)
  rintro e w2 ⟨L, nl, cl, rfl, hD, hB2⟩
  obtain ⟨⟨p1, p2, p3, p4⟩, p5, p6, p7⟩ := W1.out.keep hB2
  have B2 := Lib.hid (B1.out.trans (hB2.mono B1.out.size))
  clear hB2
  go_wp2_with fail
  exact bodyPost_ret (v := .agg #[.bool false, .slice L nl cl]) (by simp [results, Tryz.results189, go_sem, *]) rfl
    (RetN.of (retJ_box (by simp) (by simpa using hD) p7 B2.out (by omega)))
theorem num_zero (w : World) :
    Calls Tryz.prog 152 #[.agg #[.bool false, .slice none 0 0, .bool false, .slice none 0 0]] w fun e w' => e = .returned (outN 0) ∧ Below w.heap.size w w' := by
  have eo : outN 0 = .tuple #[.agg #[.int .i64 0, .int .i64 1], .int .i64 0] := by
    have hf : Fits 0 := ⟨by decide, by decide⟩
    unfold outN
    rw [if_pos hf]
    rfl
  rw [eo]
  clear eo
  have hz0 : ∀ wx, D wx (.slice none 0 0) 0 := fun wx => ⟨none, 0, 0, fun _ => 0, rfl, Nat.le_refl _, fun i hi => absurd hi (by omega), Or.inl rfl, rfl, fun h => absurd h (by omega), fun h => absurd h (by omega)⟩
  have HL1 : Hid (∀ wx, Calls Tryz.prog 188 #[.agg #[.bool false, .slice none 0 0]] wx fun e w' => e = .returned (.tuple #[.int .i64 0, .bool true]) ∧ Below wx.heap.size wx w') := fun wx =>
    limited_small false none 0 0 0 wx (hz0 wx) (by decide)
  have HL2 : Hid (∀ wx L nl cl, D wx (.slice L nl cl) 1 → Calls Tryz.prog 188 #[.agg #[.bool false, .slice L nl cl]] wx fun e w' => e = .returned (.tuple #[.int .i64 1, .bool true]) ∧ Below wx.heap.size wx w') := fun wx L nl cl h =>
    limited_small false L nl cl 1 wx h (by decide)
  clear hz0
  go_enter Tryz.func152, Tryz.ntmps152
  go_upto_region 1 with fail
  generalize hX : (w.alloc _).alloc _ = X
  have hXX : Below w.heap.size w X ∧ X.cell? ⟨w.heap.size, 0, none⟩ = some (.bool false) ∧ X.cell? ⟨w.heap.size, 1, none⟩ = some (.slice none 0 0) ∧ X.cell? ⟨w.heap.size, 2, none⟩ = some (.bool false) ∧ X.cell? ⟨w.heap.size, 3, none⟩ = some (.slice none 0 0) ∧ w.heap.size < X.heap.size ∧ Wr (w.heap.size + 1) 62 X := by
    subst hX
    exact ⟨((Below.refl _ _).alloc (Nat.le_refl _) _).alloc (by simp) _, by simp [go_sem], by simp [go_sem], by simp [go_sem], by simp [go_sem], by simp; omega, Wr.new _ _ _ 62 (by simp)⟩
  obtain ⟨hwX, k0, k1, k2, k3, hz, hW⟩ := hXX
  clear hX
  go_wp2_with fail
  (with_reducible refine (top_any false false none none 0 0 0 0 X).mono ?_)
  rintro e w1 ⟨rfl, hB1⟩
  have B1 := hwX.trans (hB1.mono hwX.size)
  go_wp2_with fail
  (with_reducible refine (HL1.out w1).mono ?_)
  rintro e w2 ⟨rfl, hB2⟩
  have hX2 : Below X.heap.size X w2 := below_trans_same hB1 hB2
  have l0 := (hX2.cell (p := ⟨w.heap.size, 0, none⟩) hz).trans k0
  have l1 := (hX2.cell (p := ⟨w.heap.size, 1, none⟩) hz).trans k1
  have l2 := (hX2.cell (p := ⟨w.heap.size, 2, none⟩) hz).trans k2
  have l3 := (hX2.cell (p := ⟨w.heap.size, 3, none⟩) hz).trans k3
  clear k0 k1 k2 k3
  go_wp2_with fail
  (with_reducible refine (low_zero w2).mono ?_)
  rintro e w3 ⟨L, nl, cl, rfl, hD, hB3⟩
  have B3 := (B1.trans (hB2.mono B1.size)).trans (hB3.mono (B1.trans (hB2.mono B1.size)).size)
  go_wp2_with fail
  (with_reducible refine (HL2.out w3 _ _ _ hD).mono ?_)
  rintro e w4 ⟨rfl, hB4⟩
  have hX4 : Below X.heap.size X w4 := below_trans_same (below_trans_same hX2 hB3) hB4
  have B4 := hwX.trans (hX4.mono hwX.size)
  obtain ⟨⟨p1, p2, p3, p4⟩, p5, p6, p7⟩ := hW.keep hX4
  clear l0 l1 l2 l3
  go_wp2_with fail
  exact bodyPost_ret (v := .tuple #[.agg #[.int .i64 0, .int .i64 1], .int .i64 0]) (by simp [results, Tryz.results152, go_sem, *]) rfl ⟨rfl, (B4.setCell (by show w.heap.size ≤ w.heap.size + 1; omega) _).setCell (by show w.heap.size ≤ w.heap.size + 1; omega) _⟩
theorem dot_zero (A B : Option Addr) (ca cb : Nat) (w : World) :
    Calls Tryz.prog 151 #[.slice A 0 ca, .slice B 0 cb] w fun e w' => e = .returned (.agg #[.bool false, .slice none 0 0, .bool false, .slice none 0 0]) ∧ Below w.heap.size w w' := by
  go_enter Tryz.func151, Tryz.ntmps151
  go_wp2_with fail
  exact bodyPost_ret (v := .agg #[.bool false, .slice none 0 0, .bool false, .slice none 0 0]) (by simp [results, Tryz.results151, go_sem, *]) rfl ⟨rfl, by repeat (first | exact below_alloc _ _ | refine Below.setCell ?_ (Nat.le_refl _) _)⟩
theorem ndot_bad1 (A B : Option Addr) (n m ca cb : Nat) (w : World) (_hn : n ≤ 1000000) (_hm : m ≤ 1000000)
    (HV1 : Hid (∀ wx, Below w.heap.size w wx → Calls Tryz.prog 150 #[.slice A n ca] wx fun e w' => e = .returned (.bool false) ∧ Below wx.heap.size wx w')) :
    Calls Tryz.prog 126 #[.slice A n ca, .slice B m cb] w fun e w' => e = .returned (.tuple #[.agg #[.int .i64 0, .int .i64 0], .int .i64 1]) ∧ Below w.heap.size w w' := by
  go_enter Tryz.func126, Tryz.ntmps126
  go_upto_region 1 with fail
  generalize hX : w.alloc _ = X
  have hwX : Below w.heap.size w X := by rw [← hX]; exact below_alloc _ _
  have hWX : Wr w.heap.size 62 X := by rw [← hX]; exact Wr.new _ _ _ 62 rfl
  clear hX
  have HWX := Lib.hid hWX
  have HwX := Lib.hid hwX
  clear hWX hwX
  go_wp2_with fail
  (with_reducible refine (HV1.out X HwX.out).mono ?_)
  rintro e w1 ⟨rfl, hB1⟩
  have W1 := Lib.hid (HWX.out.keep hB1)
  have B1 := Lib.hid (HwX.out.trans (hB1.mono HwX.out.size))
  clear hB1 HV1 HWX HwX
  obtain ⟨⟨p1, p2, p3, p4⟩, p5, p6, p7⟩ := W1.out
  go_wp2_with fail
  exact bodyPost_ret (v := .tuple #[.agg #[.int .i64 0, .int .i64 0], .int .i64 1]) (by simp [results, Tryz.results126, go_sem, *]) rfl ⟨rfl, (B1.out.setCell (Nat.le_refl _) _).setCell (Nat.le_refl _) _⟩
theorem ndot_bad2 (A B : Option Addr) (n m ca cb : Nat) (w : World) (_hn : n ≤ 1000000) (_hm : m ≤ 1000000)
    (HV1 : Hid (∀ wx, Below w.heap.size w wx → Calls Tryz.prog 150 #[.slice A n ca] wx fun e w' => e = .returned (.bool true) ∧ Below wx.heap.size wx w'))
    (HV2 : Hid (∀ wx, Below w.heap.size w wx → Calls Tryz.prog 150 #[.slice B m cb] wx fun e w' => e = .returned (.bool false) ∧ Below wx.heap.size wx w')) :
    Calls Tryz.prog 126 #[.slice A n ca, .slice B m cb] w fun e w' => e = .returned (.tuple #[.agg #[.int .i64 0, .int .i64 0], .int .i64 1]) ∧ Below w.heap.size w w' := by
  go_enter Tryz.func126, Tryz.ntmps126
  go_upto_region 1 with fail
  generalize hX : w.alloc _ = X
  have hwX : Below w.heap.size w X := by rw [← hX]; exact below_alloc _ _
  have hWX : Wr w.heap.size 62 X := by rw [← hX]; exact Wr.new _ _ _ 62 rfl
  clear hX
  have HWX := Lib.hid hWX
  have HwX := Lib.hid hwX
  clear hWX hwX
  go_wp2_with fail
  (with_reducible refine (HV1.out X HwX.out).mono ?_)
  rintro e w1 ⟨rfl, hB1⟩
  have W1 := Lib.hid (HWX.out.keep hB1)
  have B1 := Lib.hid (HwX.out.trans (hB1.mono HwX.out.size))
  clear hB1 HV1 HWX HwX
  go_wp2_with fail
  (with_reducible refine (HV2.out w1 B1.out).mono ?_)
  rintro e w2 ⟨rfl, hB2⟩
  have W2 := Lib.hid (W1.out.keep hB2)
  have B2 := Lib.hid (B1.out.trans (hB2.mono B1.out.size))
  clear hB2 HV2
  obtain ⟨⟨p1, p2, p3, p4⟩, p5, p6, p7⟩ := W2.out
  go_wp2_with fail
  exact bodyPost_ret (v := .tuple #[.agg #[.int .i64 0, .int .i64 0], .int .i64 1]) (by simp [results, Tryz.results126, go_sem, *]) rfl ⟨rfl, (B2.out.setCell (Nat.le_refl _) _).setCell (Nat.le_refl _) _⟩
theorem ndot_dim (A B : Option Addr) (n m ca cb : Nat) (w : World) (_hn : n ≤ 1000000) (_hm : m ≤ 1000000)
    (HV1 : Hid (∀ wx, Below w.heap.size w wx → Calls Tryz.prog 150 #[.slice A n ca] wx fun e w' => e = .returned (.bool true) ∧ Below wx.heap.size wx w'))
    (HV2 : Hid (∀ wx, Below w.heap.size w wx → Calls Tryz.prog 150 #[.slice B m cb] wx fun e w' => e = .returned (.bool true) ∧ Below wx.heap.size wx w')) (hne : n ≠ m) :
    Calls Tryz.prog 126 #[.slice A n ca, .slice B m cb] w fun e w' => e = .returned (.tuple #[.agg #[.int .i64 0, .int .i64 0], .int .i64 2]) ∧ Below w.heap.size w w' := by
  have hb : ((n : Int) != (m : Int)) = true := by rw [bne_iff_ne]; omega
  go_enter Tryz.func126, Tryz.ntmps126
  go_upto_region 1 with fail
  generalize hX : w.alloc _ = X
  have hwX : Below w.heap.size w X := by rw [← hX]; exact below_alloc _ _
  have hWX : Wr w.heap.size 62 X := by rw [← hX]; exact Wr.new _ _ _ 62 rfl
  clear hX
  have HWX := Lib.hid hWX
  have HwX := Lib.hid hwX
  clear hWX hwX
  go_wp2_with fail
  (with_reducible refine (HV1.out X HwX.out).mono ?_)
  rintro e w1 ⟨rfl, hB1⟩
  have W1 := Lib.hid (HWX.out.keep hB1)
  have B1 := Lib.hid (HwX.out.trans (hB1.mono HwX.out.size))
  clear hB1 HV1 HWX HwX
  go_wp2_with fail
  (with_reducible refine (HV2.out w1 B1.out).mono ?_)
  rintro e w2 ⟨rfl, hB2⟩
  have W2 := Lib.hid (W1.out.keep hB2)
  have B2 := Lib.hid (B1.out.trans (hB2.mono B1.out.size))
  clear hB2 HV2
  obtain ⟨⟨p1, p2, p3, p4⟩, p5, p6, p7⟩ := W2.out
  go_wp2_with fail
  exact bodyPost_ret (v := .tuple #[.agg #[.int .i64 0, .int .i64 0], .int .i64 2]) (by simp [results, Tryz.results126, go_sem, *]) rfl ⟨rfl, (B2.out.setCell (Nat.le_refl _) _).setCell (Nat.le_refl _) _⟩
theorem ndot_ok (A B : Option Addr) (n m ca cb : Nat) (p q r : Int) (w : World) (_hn : n ≤ 1000000) (_hm : m ≤ 1000000)
    (HV1 : Hid (∀ wx, Below w.heap.size w wx → Calls Tryz.prog 150 #[.slice A n ca] wx fun e w' => e = .returned (.bool true) ∧ Below wx.heap.size wx w'))
    (HV2 : Hid (∀ wx, Below w.heap.size w wx → Calls Tryz.prog 150 #[.slice B m cb] wx fun e w' => e = .returned (.bool true) ∧ Below wx.heap.size wx w')) (hne : n = m)
    (HD : Hid (∀ wx, Below w.heap.size w wx → Calls Tryz.prog 151 #[.slice A n ca, .slice B m cb] wx fun e w' => ∃ d, e = .returned d ∧ Hid (Calls Tryz.prog 152 #[d] w' fun e w'' => e = .returned (.tuple #[.agg #[.int .i64 p, .int .i64 q], .int .i64 r]) ∧ Below w'.heap.size w' w'') ∧ Below wx.heap.size wx w')) :
    Calls Tryz.prog 126 #[.slice A n ca, .slice B m cb] w fun e w' => e = .returned (.tuple #[.agg #[.int .i64 p, .int .i64 q], .int .i64 r]) ∧ Below w.heap.size w w' := by
  subst hne
  have hb : ((n : Int) != (n : Int)) = false := by simp
  go_enter Tryz.func126, Tryz.ntmps126
  go_upto_region 1 with fail
  generalize hX : w.alloc _ = X
  have hwX : Below w.heap.size w X := by rw [← hX]; exact below_alloc _ _
  have hWX : Wr w.heap.size 62 X := by rw [← hX]; exact Wr.new _ _ _ 62 rfl
  clear hX
  have HWX := Lib.hid hWX
  have HwX := Lib.hid hwX
  clear hWX hwX
  go_wp2_with fail
  (with_reducible refine (HV1.out X HwX.out).mono ?_)
  rintro e w1 ⟨rfl, hB1⟩
  have W1 := Lib.hid (HWX.out.keep hB1)
  have B1 := Lib.hid (HwX.out.trans (hB1.mono HwX.out.size))
  clear hB1 HV1 HWX HwX
  go_wp2_with fail
  (with_reducible refine (HV2.out w1 B1.out).mono ?_)
  rintro e w2 ⟨rfl, hB2⟩
  have W2 := Lib.hid (W1.out.keep hB2)
  have B2 := Lib.hid (B1.out.trans (hB2.mono B1.out.size))
  clear hB2 HV2
  go_wp2_with fail
  (with_reducible refine (HD.out w2 B2.out).mono ?_)
  rintro e w3 ⟨d, rfl, HN, hB3⟩
  have W3 := Lib.hid (W2.out.keep hB3)
  have B3 := Lib.hid (B2.out.trans (hB3.mono B2.out.size))
  clear hB3 HD
  go_wp2_with fail
  (with_reducible refine HN.out.mono ?_)
  rintro e w4 ⟨rfl, hB4⟩
  have W4 := Lib.hid (W3.out.keep hB4)
  have B4 := Lib.hid (B3.out.trans (hB4.mono B3.out.size))
  clear hB4 HN
  obtain ⟨⟨p1, p2, p3, p4⟩, p5, p6, p7⟩ := W4.out
  go_wp2_with fail
  exact bodyPost_ret (v := .tuple #[.agg #[.int .i64 p, .int .i64 q], .int .i64 r]) (by simp [results, Tryz.results126, go_sem, *]) rfl ⟨rfl, (B4.out.setCell (Nat.le_refl _) _).setCell (Nat.le_refl _) _⟩
def dotT (n m : Nat) (t l t' l' : Nat → Int) : Int × Int × Int :=
  if allB (fun i => vld (t i) (l i)) n && allB (fun i => vld (t' i) (l' i)) m then (if n = m then outT (sumQ (Pr t l t' l') n) else (0, 0, 2)) else (0, 0, 1)
theorem ndot_any (A B : Option Addr) (n m ca cb : Nat) (t l t' l' : Nat → Int) (w : World) (hn : n ≤ 200) (hm : m ≤ 200) (hca : n ≤ ca) (hcb : m ≤ cb) (hA : Lnum w A n t l) (hB : Lnum w B m t' l') :
    Calls Tryz.prog 126 #[.slice A n ca, .slice B m cb] w fun e w' => e = .returned (val3 (dotT n m t l t' l')) ∧ Below w.heap.size w w' := by
  have HV1 : Hid (∀ wx, Below w.heap.size w wx → Calls Tryz.prog 150 #[.slice A n ca] wx fun e w' => e = .returned (.bool (allB (fun i => vld (t i) (l i)) n)) ∧ Below wx.heap.size wx w') := fun wx hx => allValid_any A n ca t l wx (by omega) (hA.keep hx)
  have HV2 : Hid (∀ wx, Below w.heap.size w wx → Calls Tryz.prog 150 #[.slice B m cb] wx fun e w' => e = .returned (.bool (allB (fun i => vld (t' i) (l' i)) m)) ∧ Below wx.heap.size wx w') := fun wx hx => allValid_any B m cb t' l' wx (by omega) (hB.keep hx)
  unfold dotT
  cases h1 : allB (fun i => vld (t i) (l i)) n with
  | false =>
    rw [h1] at HV1
    exact ndot_bad1 A B n m ca cb w (by omega) (by omega) HV1
  | true =>
    rw [h1] at HV1
    cases h2 : allB (fun i => vld (t' i) (l' i)) m with
    | false =>
      rw [h2] at HV2
      exact ndot_bad2 A B n m ca cb w (by omega) (by omega) HV1 HV2
    | true =>
      rw [h2] at HV2
      by_cases hne : n = m
      · subst hne
        obtain ⟨z, hz⟩ : ∃ z, sumQ (Pr t l t' l') n = z := ⟨_, rfl⟩
        rw [hz, if_pos (show (true && true) = true from rfl), if_pos rfl]
        rw [← outN_val]
        have ev : outN z = .tuple #[.agg #[.int .i64 (outT z).1, .int .i64 (outT z).2.1], .int .i64 (outT z).2.2] := outN_val z
        rw [ev]
        rcases Nat.eq_zero_or_pos n with h0 | h0
        · subst h0
          refine ndot_ok A B 0 0 ca cb _ _ _ w (by omega) (by omega) HV1 HV2 rfl ?_
          refine Lib.hid fun wx hx => (dot_zero A B ca cb wx).mono fun e w' h => ⟨_, h.1, ?_, h.2⟩
          have hz0 : (0 : Rat) = z := hz
          rw [← ev, ← hz0]
          exact num_zero w'
        · have hval : ∀ i, i < n → vld (t i) (l i) = true := fun i hi => allB_get h1 hi
          have hval' : ∀ i, i < n → vld (t' i) (l' i) = true := fun i hi => allB_get h2 hi
          have hlong := Bd.dot (f := Pr t l t' l') hn fun i hi => pr_bd (hval i hi) (hval' i hi)
          rw [hz] at hlong
          refine ndot_ok A B n n ca cb _ _ _ w (by omega) (by omega) HV1 HV2 rfl ?_
          refine Lib.hid fun wx hx => (dot_any n h0 hn A B ca cb t l t' l' wx (hA.keep hx) (hB.keep hx) hval hval' hca hcb).mono fun e w' h => ?_
          rw [hz] at h
          obtain ⟨A1, n1, c1, B1, m1, d1, rfl, hq, e1, e2, hb⟩ := h.long hlong
          refine ⟨_, rfl, ?_, hb⟩
          rw [← ev]
          exact num_any _ A1 B1 n1 c1 m1 d1 z w' hq (by omega) (by omega)
      · rw [if_pos (show (true && true) = true from rfl), if_neg hne]
        exact ndot_dim A B n m ca cb w (by omega) (by omega) HV1 HV2 hne
end Go.Proofs.YtmfnpipmbpnfbaaGreatDoor
