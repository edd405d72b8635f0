/- The order of integers, fractions and numbers. -/
import Derived.Test.YtjoanclnaeephaaGreatZRatA
namespace Go.Proofs.YtjoanclnaeephaaGreat
open Go.RowKit


set_option maxRecDepth 100000 in
set_option maxHeartbeats 20000000 in
theorem icmp_ff (A B : Option Addr) (n c m d : Nat) (r : Int) (w : World) (HC : Hid (∀ wx, Below w.heap.size w wx → Calls Tryz.prog 68 #[.slice A n c, .slice B m d] wx fun e w' => e = .returned (.int .i64 r) ∧ Drn wx w')) : Calls Tryz.prog 52 #[.agg #[.bool false, .slice A n c], .agg #[.bool false, .slice B m d]] w fun e w' => e = .returned (.int .i64 r) ∧ Below w.heap.size w w' := by
  go_enter Tryz.func52, Tryz.ntmps52
  go_upto_region 1 with fail
  generalize hX : (w.alloc _).alloc _ = X
  have HX : Hid (Below w.heap.size w X) := by
    subst hX
    exact below_two w _ _
  obtain ⟨⟨k0, k1⟩, j0, j1⟩ : (X.cell? ⟨w.heap.size, 0, none⟩ = some (.bool false) ∧ X.cell? ⟨w.heap.size, 1, none⟩ = some (.slice A n c)) ∧ X.cell? ⟨w.heap.size + 1, 0, none⟩ = some (.bool false) ∧ X.cell? ⟨w.heap.size + 1, 1, none⟩ = some (.slice B m d) := by
    subst hX
    simp [go_sem]
  clear hX
  go_wp2_with fail
  (with_reducible refine (HC.out _ HX.out).mono ?_)
  rintro e w1 ⟨rfl, hB⟩
  have HB := Lib.hid (HX.out.trans (hB.below _))
  clear k0 k1 j0 j1 hB
  go_wp2_with fail
  go_ret
  exact ⟨rfl, HB.out⟩

set_option maxRecDepth 100000 in
set_option maxHeartbeats 20000000 in
theorem icmp_tt (A B : Option Addr) (n c m d : Nat) (r : Int) (w : World) (HC : Hid (∀ wx, Below w.heap.size w wx → Calls Tryz.prog 68 #[.slice B m d, .slice A n c] wx fun e w' => e = .returned (.int .i64 r) ∧ Drn wx w')) : Calls Tryz.prog 52 #[.agg #[.bool true, .slice A n c], .agg #[.bool true, .slice B m d]] w fun e w' => e = .returned (.int .i64 r) ∧ Below w.heap.size w w' := by
  go_enter Tryz.func52, Tryz.ntmps52
  go_upto_region 1 with fail
  generalize hX : (w.alloc _).alloc _ = X
  have HX : Hid (Below w.heap.size w X) := by
    subst hX
    exact below_two w _ _
  obtain ⟨⟨k0, k1⟩, j0, j1⟩ : (X.cell? ⟨w.heap.size, 0, none⟩ = some (.bool true) ∧ X.cell? ⟨w.heap.size, 1, none⟩ = some (.slice A n c)) ∧ X.cell? ⟨w.heap.size + 1, 0, none⟩ = some (.bool true) ∧ X.cell? ⟨w.heap.size + 1, 1, none⟩ = some (.slice B m d) := by
    subst hX
    simp [go_sem]
  clear hX
  go_wp2_with fail
  (with_reducible refine (HC.out _ HX.out).mono ?_)
  rintro e w1 ⟨rfl, hB⟩
  have HB := Lib.hid (HX.out.trans (hB.below _))
  clear k0 k1 j0 j1 hB
  go_wp2_with fail
  go_ret
  exact ⟨rfl, HB.out⟩

set_option maxRecDepth 100000 in
set_option maxHeartbeats 20000000 in
theorem icmp_tf (A B : Option Addr) (n c m d : Nat) (w : World) : Calls Tryz.prog 52 #[.agg #[.bool true, .slice A n c], .agg #[.bool false, .slice B m d]] w fun e w' => e = .returned (.int .i64 (-1)) ∧ Below w.heap.size w w' := by
  go_enter Tryz.func52, Tryz.ntmps52
  go_upto_region 1 with fail
  generalize hX : (w.alloc _).alloc _ = X
  have HX : Hid (Below w.heap.size w X) := by
    subst hX
    exact below_two w _ _
  obtain ⟨⟨k0, k1⟩, j0, j1⟩ : (X.cell? ⟨w.heap.size, 0, none⟩ = some (.bool true) ∧ X.cell? ⟨w.heap.size, 1, none⟩ = some (.slice A n c)) ∧ X.cell? ⟨w.heap.size + 1, 0, none⟩ = some (.bool false) ∧ X.cell? ⟨w.heap.size + 1, 1, none⟩ = some (.slice B m d) := by
    subst hX
    simp [go_sem]
  clear hX
  go_wp2_with fail
  go_ret
  exact ⟨rfl, HX.out⟩

set_option maxRecDepth 100000 in
set_option maxHeartbeats 20000000 in
theorem icmp_ft (A B : Option Addr) (n c m d : Nat) (w : World) : Calls Tryz.prog 52 #[.agg #[.bool false, .slice A n c], .agg #[.bool true, .slice B m d]] w fun e w' => e = .returned (.int .i64 1) ∧ Below w.heap.size w w' := by
  go_enter Tryz.func52, Tryz.ntmps52
  go_upto_region 1 with fail
  generalize hX : (w.alloc _).alloc _ = X
  have HX : Hid (Below w.heap.size w X) := by
    subst hX
    exact below_two w _ _
  obtain ⟨⟨k0, k1⟩, j0, j1⟩ : (X.cell? ⟨w.heap.size, 0, none⟩ = some (.bool false) ∧ X.cell? ⟨w.heap.size, 1, none⟩ = some (.slice A n c)) ∧ X.cell? ⟨w.heap.size + 1, 0, none⟩ = some (.bool true) ∧ X.cell? ⟨w.heap.size + 1, 1, none⟩ = some (.slice B m d) := by
    subst hX
    simp [go_sem]
  clear hX
  go_wp2_with fail
  go_ret
  exact ⟨rfl, HX.out⟩

theorem cmp_sgn (x y : Nat) : cmpI x y = sgnI ((x : Int) - y) := by
  unfold cmpI sgnI
  split
  · rw [if_pos (by omega)]
  · split
    · rw [if_neg (by omega), if_neg (by omega)]
    · rw [if_neg (by omega), if_pos (by omega)]
theorem pv_cmp {u u' : Value} {z z' : Int} {w : World} (h : PV w u z) (h' : PV w u' z') (hz : z.natAbs < W ^ 6) (hz' : z'.natAbs < W ^ 6) : Calls Tryz.prog 52 #[u, u'] w (RetW (.val (.int .i64 (sgnI (z - z')))) w) := by
  obtain ⟨b, A, n, c, rfl, hb, h1⟩ := h
  obtain ⟨b', B, m, d, rfl, hb', h2⟩ := h'
  have hb0 := hb.out
  have hb1 := hb'.out
  have hln := h1.len hz
  have hlm := h2.len hz'
  suffices H : Calls Tryz.prog 52 #[.agg #[.bool b, .slice A n c], .agg #[.bool b', .slice B m d]] w fun e w' => e = .returned (.int .i64 (sgnI (z - z'))) ∧ Below w.heap.size w w' by
    refine H.mono ?_
    rintro e w' ⟨rfl, hB⟩
    exact ⟨_, rfl, rfl, hB⟩
  cases b with
  | false =>
    have hz0 : 0 ≤ z := by have := of_decide_eq_false hb0.symm; omega
    cases b' with
    | false =>
      have hz0' : 0 ≤ z' := by have := of_decide_eq_false hb1.symm; omega
      have e : sgnI (z - z') = cmpI z.natAbs z'.natAbs := by rw [cmp_sgn]; congr 1; omega
      rw [e]
      exact icmp_ff A B n c m d _ w (Lib.hid fun wx hx => compD_any A B n m c d _ _ wx (h1.keep hx) (h2.keep hx) (by omega))
    | true =>
      have hz0' : z' < 0 := of_decide_eq_true hb1.symm
      have e : sgnI (z - z') = 1 := by unfold sgnI; rw [if_neg (by omega), if_neg (by omega)]
      rw [e]
      exact icmp_ft A B n c m d w
  | true =>
    have hz0 : z < 0 := of_decide_eq_true hb0.symm
    cases b' with
    | false =>
      have hz0' : 0 ≤ z' := by have := of_decide_eq_false hb1.symm; omega
      have e : sgnI (z - z') = -1 := by unfold sgnI; rw [if_pos (by omega)]
      rw [e]
      exact icmp_tf A B n c m d w
    | true =>
      have hz0' : z' < 0 := of_decide_eq_true hb1.symm
      have e : sgnI (z - z') = cmpI z'.natAbs z.natAbs := by rw [cmp_sgn]; congr 1; omega
      rw [e]
      exact icmp_tt A B n c m d _ w (Lib.hid fun wx hx => compD_any B A m n d c _ _ wx (h2.keep hx) (h1.keep hx) (by omega))
theorem pv_mul {u u' : Value} {z z' : Int} {w : World} (h : PV w u z) (h' : PV w u' z') (hz : z.natAbs < W ^ 3) (hz' : z'.natAbs < W ^ 3) : Calls Tryz.prog 41 #[u, u'] w (RetW (.pint (z * z')) w) := by
  obtain ⟨b, A, n, c, rfl, hb, h1⟩ := h
  obtain ⟨b', B, m, d, rfl, hb', h2⟩ := h'
  have := mulI_any b b' A B n m c d _ _ w h1 h2 (by have := h1.len hz; omega) (by have := h2.len hz'; omega)
  rw [hb.out, hb'.out, sgn_self, sgn_self] at this
  rw [hb.out, hb'.out]
  exact this.mono fun _ _ => RetJ.w
theorem qv_low {u : Value} {x : Rat} {w : World} (h : QV w u x) (hx : x.den < W ^ 3) : Calls Tryz.prog 38 #[u] w (RetW (.pint (x.den : Int)) w) := by
  obtain ⟨b, A, n, c, B, m, d, rfl, hQ⟩ := h
  refine (low_any b A B n c m d w hQ.low (by have := hQ.2.2.len hx; omega)).mono ?_
  rintro e w' ⟨rfl, hB⟩
  exact ⟨_, rfl, ⟨false, B, m, d, rfl, (decide_eq_false (by omega)).symm, by rw [Int.natAbs_natCast]; exact hQ.2.2.keep hB⟩, hB⟩
theorem qv_of (x : Rat) (w : World) (h1 : -9223372036854775808 ≤ x.num) (h2 : x.num ≤ 9223372036854775807) (h3 : x.den ≤ 9223372036854775807) : Calls Tryz.prog 29 #[.agg #[.int .i64 x.num, .int .i64 (x.den : Int)]] w (RetW (.prat x) w) := by
  refine (of_any x w h1 h2 h3).mono ?_
  rintro e w' ⟨A, n, c, B, m, d, rfl, k1, k2, k3⟩
  exact ⟨_, rfl, ⟨_, A, n, c, B, m, d, rfl, rfl, k1, k2⟩, k3⟩

/-- The boxes of two fractions. -/
structure FQ2 (w : World) (a b c d a' b' c' d' : Value) (wx : World) : Prop where
  below : Below w.heap.size w wx
  ba : B4 w.heap.size a b c d wx
  bb : B4 (w.heap.size + 1) a' b' c' d' wx
  za : w.heap.size < wx.heap.size
  zb : w.heap.size + 1 < wx.heap.size
theorem FQ2.keep {w : World} {a b c d a' b' c' d' : Value} (wx wy : World) (h : FQ2 w a b c d a' b' c' d' wx) (hb : Below wx.heap.size wx wy) : FQ2 w a b c d a' b' c' d' wy :=
  ⟨h.below.trans (hb.mono h.below.size), h.ba.keep h.za hb, h.bb.keep h.zb hb, Nat.lt_of_lt_of_le h.za hb.size, Nat.lt_of_lt_of_le h.zb hb.size⟩
/-- The order of two fractions. -/
def sgnR (x y : Rat) : Int := sgnI (x.num * (y.den : Int) - y.num * (x.den : Int))

set_option maxRecDepth 100000 in
set_option maxHeartbeats 20000000 in
theorem rcmp_walk (b1 b2 : Bool) (A1 B1 A2 B2 : Option Addr) (n1 c1 m1 d1 n2 c2 m2 d2 : Nat) (x y : Rat) (q p1 q1 p2 q2 t1 t2 : Int) (w : World)
    (H1 : Hid (QV w (.agg #[.bool b1, .slice A1 n1 c1, .bool false, .slice B1 m1 d1]) x)) (H2 : Hid (QV w (.agg #[.bool b2, .slice A2 n2 c2, .bool false, .slice B2 m2 d2]) y))
    (P1 : Hid (PV w (.agg #[.bool b1, .slice A1 n1 c1]) p1)) (P2 : Hid (PV w (.agg #[.bool b2, .slice A2 n2 c2]) p2))
    (HL1 : Hid (∀ wx u, QV wx u x → Calls Tryz.prog 38 #[u] wx (RetW (.pint q1) wx))) (HL2 : Hid (∀ wx u, QV wx u y → Calls Tryz.prog 38 #[u] wx (RetW (.pint q2) wx)))
    (HM1 : Hid (∀ wx u u', PV wx u p1 → PV wx u' q2 → Calls Tryz.prog 41 #[u, u'] wx (RetW (.pint t1) wx))) (HM2 : Hid (∀ wx u u', PV wx u p2 → PV wx u' q1 → Calls Tryz.prog 41 #[u, u'] wx (RetW (.pint t2) wx)))
    (HC : Hid (∀ wx u u', PV wx u t1 → PV wx u' t2 → Calls Tryz.prog 52 #[u, u'] wx (RetW (.val (.int .i64 q)) wx))) :
    Calls Tryz.prog 30 #[.agg #[.bool b1, .slice A1 n1 c1, .bool false, .slice B1 m1 d1], .agg #[.bool b2, .slice A2 n2 c2, .bool false, .slice B2 m2 d2]] w (RetW (.val (.int .i64 q)) w) := by
  go_enter Tryz.func30, Tryz.ntmps30
  go_upto_region 1 with fail
  generalize hX : (w.alloc _).alloc _ = X
  have HX : Hid (FQ2 w (.bool b1) (.slice A1 n1 c1) (.bool false) (.slice B1 m1 d1) (.bool b2) (.slice A2 n2 c2) (.bool false) (.slice B2 m2 d2) X) := by
    subst hX
    exact ⟨below_two w _ _, by simp [B4, go_sem], by simp [B4, go_sem], by simp; omega, by simp⟩
  clear hX
  refine wp_region_flow 12 [5, 6, 7, 8, 9, 10, 11, 12, 13, 14, 15, 4] (fun i => if i = 11 then 4 else 5 + i) (FQ2 w (.bool b1) (.slice A1 n1 c1) (.bool false) (.slice B1 m1 d1) (.bool b2) (.slice A2 n2 c2) (.bool false) (.slice B2 m2 d2)) (Sql [.val (.pointer (some ⟨w.heap.size, 0, none⟩)), .pint p1, .prat y, .pint q2, .pint t1, .val (.pointer (some ⟨w.heap.size + 1, 0, none⟩)), .pint p2, .prat x, .pint q1, .pint t2, .val (.int .i64 q), .val (.int .i64 q)]) (by kernel_rfl) (by kernel_rfl) (by kernel_rfl) (by kernel_rfl) (fun i j hi hj h => by have h : (if i = 11 then 4 else 5 + i) = (if j = 11 then 4 else 5 + j) := h; split at h <;> split at h <;> omega) (by decide) FQ2.keep Sql.keep ?_ ?_ ?_
  · exact HX.out.keep _ _ (Below.drew (Below.refl _ _))
  · intro i v wx o T' K ho hF hdep hin hout hK
    have hi : i < 12 := (Array.getElem?_eq_some_iff.1 ho).1
    have q5 := hin 5 (by decide)
    have q6 := hin 6 (by decide)
    have q7 := hin 7 (by decide)
    have q8 := hin 8 (by decide)
    have q9 := hin 9 (by decide)
    have q10 := hin 10 (by decide)
    have q11 := hin 11 (by decide)
    have q12 := hin 12 (by decide)
    have q13 := hin 13 (by decide)
    have q14 := hin 14 (by decide)
    have q15 := hin 15 (by decide)
    have q4 := hin 4 (by decide)
    have sl2 : T'[2]? = some (.pointer (some ⟨w.heap.size, 0, none⟩)) := (hout 2 (by decide)).trans rfl
    have sl3 : T'[3]? = some (.pointer (some ⟨w.heap.size + 1, 0, none⟩)) := (hout 3 (by decide)).trans rfl
    clear hin hout
    have HF := Lib.hid hF
    have HD := Lib.hid hdep
    clear hF hdep
    rcases (by omega : i = 0 ∨ i = 1 ∨ i = 2 ∨ i = 3 ∨ i = 4 ∨ i = 5 ∨ i = 6 ∨ i = 7 ∨ i = 8 ∨ i = 9 ∨ i = 10 ∨ i = 11) with rfl | rfl | rfl | rfl | rfl | rfl | rfl | rfl | rfl | rfl | rfl | rfl
    · obtain rfl := Option.some.inj ho
      clear q5 q6 q7 q8 q9 q10 q11 q12 q13 q14 q15 q4 sl3 ho hi
      go_simp
      exact hK _ _ (Below.refl _ _) rfl
    · obtain rfl := Option.some.inj ho
      have e1 : v 5 = (.pointer (some ⟨w.heap.size, 0, none⟩)) := HD.out ⟨0, .data⟩ (by simp) rfl
      rw [e1] at q5
      obtain ⟨k0, k1, k2, k3⟩ := HF.out.ba
      have hP := P1.out.keep HF.out.below
      clear q6 q7 q8 q9 q10 q11 q12 q13 q14 q15 q4 sl2 sl3 ho hi
      go_simp
      exact hK _ _ (Below.refl _ _) hP
    · obtain rfl := Option.some.inj ho
      obtain ⟨k0, k1, k2, k3⟩ := HF.out.bb
      have hP := H2.out.keep HF.out.below
      clear q5 q6 q7 q8 q9 q10 q11 q12 q13 q14 q15 q4 sl2 ho hi
      go_simp
      exact hK _ _ (Below.refl _ _) hP
    · obtain rfl := Option.some.inj ho
      have h0 : QV wx (v 7) y := HD.out ⟨2, .data⟩ (by simp) rfl
      clear q5 q6 q8 q9 q10 q11 q12 q13 q14 q15 q4 sl2 sl3 ho hi
      go_simp
      (with_reducible refine (HL2.out _ _ h0).mono ?_)
      rintro e w2 ⟨u, rfl, hu, hB⟩
      exact hK _ _ hB hu
    · obtain rfl := Option.some.inj ho
      have h0 : PV wx (v 6) p1 := HD.out ⟨1, .data⟩ (by simp) rfl
      have h1 : PV wx (v 8) q2 := HD.out ⟨3, .data⟩ (by simp) rfl
      clear q5 q7 q9 q10 q11 q12 q13 q14 q15 q4 sl2 sl3 ho hi
      go_simp
      (with_reducible refine (HM1.out _ _ _ h0 h1).mono ?_)
      rintro e w2 ⟨u, rfl, hu, hB⟩
      exact hK _ _ hB hu
    · obtain rfl := Option.some.inj ho
      clear q5 q6 q7 q8 q9 q10 q11 q12 q13 q14 q15 q4 sl2 ho hi
      go_simp
      exact hK _ _ (Below.refl _ _) rfl
    · obtain rfl := Option.some.inj ho
      have e1 : v 10 = (.pointer (some ⟨w.heap.size + 1, 0, none⟩)) := HD.out ⟨5, .data⟩ (by simp) rfl
      rw [e1] at q10
      obtain ⟨k0, k1, k2, k3⟩ := HF.out.bb
      have hP := P2.out.keep HF.out.below
      clear q5 q6 q7 q8 q9 q11 q12 q13 q14 q15 q4 sl2 sl3 ho hi
      go_simp
      exact hK _ _ (Below.refl _ _) hP
    · obtain rfl := Option.some.inj ho
      obtain ⟨k0, k1, k2, k3⟩ := HF.out.ba
      have hP := H1.out.keep HF.out.below
      clear q5 q6 q7 q8 q9 q10 q11 q12 q13 q14 q15 q4 sl3 ho hi
      go_simp
      exact hK _ _ (Below.refl _ _) hP
    · obtain rfl := Option.some.inj ho
      have h0 : QV wx (v 12) x := HD.out ⟨7, .data⟩ (by simp) rfl
      clear q5 q6 q7 q8 q9 q10 q11 q13 q14 q15 q4 sl2 sl3 ho hi
      go_simp
      (with_reducible refine (HL1.out _ _ h0).mono ?_)
      rintro e w2 ⟨u, rfl, hu, hB⟩
      exact hK _ _ hB hu
    · obtain rfl := Option.some.inj ho
      have h0 : PV wx (v 11) p2 := HD.out ⟨6, .data⟩ (by simp) rfl
      have h1 : PV wx (v 13) q1 := HD.out ⟨8, .data⟩ (by simp) rfl
      clear q5 q6 q7 q8 q9 q10 q12 q14 q15 q4 sl2 sl3 ho hi
      go_simp
      (with_reducible refine (HM2.out _ _ _ h0 h1).mono ?_)
      rintro e w2 ⟨u, rfl, hu, hB⟩
      exact hK _ _ hB hu
    · obtain rfl := Option.some.inj ho
      have h0 : PV wx (v 9) t1 := HD.out ⟨4, .data⟩ (by simp) rfl
      have h1 : PV wx (v 14) t2 := HD.out ⟨9, .data⟩ (by simp) rfl
      clear q5 q6 q7 q8 q10 q11 q12 q13 q15 q4 sl2 sl3 ho hi
      go_simp
      (with_reducible refine (HC.out _ _ _ h0 h1).mono ?_)
      rintro e w2 ⟨u, rfl, hu, hB⟩
      exact hK _ _ hB hu
    · obtain rfl := Option.some.inj ho
      have e0 : v 15 = (.int .i64 q) := HD.out ⟨10, .data⟩ (by simp) rfl
      rw [e0] at q15
      clear q5 q6 q7 q8 q9 q10 q11 q12 q13 q14 q4 sl2 sl3 ho hi
      go_simp
      exact hK _ _ (Below.refl _ _) rfl
  · intro v wx hF hall
    have h2 : v 4 = .int .i64 q := hall 11 (by decide)
    have HB := Lib.hid hF.below
    clear hF hall
    simp only [over, List.setIfInBounds_toArray, List.set_cons_zero, List.set_cons_succ]
    rw [h2]
    generalize v 5 = v5
    generalize v 6 = v6
    generalize v 7 = v7
    generalize v 8 = v8
    generalize v 9 = v9
    generalize v 10 = v10
    generalize v 11 = v11
    generalize v 12 = v12
    generalize v 13 = v13
    generalize v 14 = v14
    generalize v 15 = v15
    go_wp2_with fail
    go_ret
    exact ⟨_, rfl, rfl, HB.out⟩

theorem qv_cmp {u u' : Value} {x y : Rat} {w : World} (h : QV w u x) (h' : QV w u' y) (hx : x.num.natAbs < W ^ 3 ∧ x.den < W ^ 3) (hy : y.num.natAbs < W ^ 3 ∧ y.den < W ^ 3) : Calls Tryz.prog 30 #[u, u'] w (RetW (.val (.int .i64 (sgnR x y))) w) := by
  have H1 := Lib.hid h
  have H2 := Lib.hid h'
  obtain ⟨b1, A1, n1, c1, B1, m1, d1, rfl, hQ1⟩ := h
  obtain ⟨b2, A2, n2, c2, B2, m2, d2, rfl, hQ2⟩ := h'
  have hdx : ((x.den : Int)).natAbs < W ^ 3 := by rw [Int.natAbs_natCast]; exact hx.2
  have hdy : ((y.den : Int)).natAbs < W ^ 3 := by rw [Int.natAbs_natCast]; exact hy.2
  exact rcmp_walk b1 b2 A1 B1 A2 B2 n1 c1 m1 d1 n2 c2 m2 d2 x y _ x.num (x.den : Int) y.num (y.den : Int) (x.num * (y.den : Int)) (y.num * (x.den : Int)) w H1 H2 ⟨b1, A1, n1, c1, rfl, hQ1.1, hQ1.2.1⟩ ⟨b2, A2, n2, c2, rfl, hQ2.1, hQ2.2.1⟩
    (Lib.hid fun wx u k => qv_low k hx.2) (Lib.hid fun wx u k => qv_low k hy.2) (Lib.hid fun wx u u' k1 k2 => pv_mul k1 k2 hx.1 hdy) (Lib.hid fun wx u u' k1 k2 => pv_mul k1 k2 hy.1 hdx) (Lib.hid fun wx u u' k1 k2 => pv_cmp k1 k2 (by rw [Int.natAbs_mul]; exact mul_lt_pow (n := 3) (m := 3) hx.1 hdy) (by rw [Int.natAbs_mul]; exact mul_lt_pow (n := 3) (m := 3) hy.1 hdx))

end Go.Proofs.YtjoanclnaeephaaGreat
