/- The order of integers, fractions and numbers. The simplest fraction of a range: plain facts. num.simplest and num.negative. num.simplest: the contract. num.Cmp. A region whose order is drawn, whose last operations are a store and a constant. num.Between. num.Between: what it returns, and what that means. -/
import Derived.Test.YtjoanclnaeephaaMRf
import Derived.Test.YtjoanclnaeephaaPlain3
import Derived.IntWalk
import Derived.Test.YtjoanclnaeephaaMRe

namespace Go.Proofs.Ytjoanclnaeephaa
open Go.RowKit


set_option maxRecDepth 100000 in
set_option maxHeartbeats 20000000 in
theorem icmp_ff (A B : Option Addr) (n c m d : Nat) (r : Int) (w : World) (HC : Hid (∀ wx, Below w.heap.size w wx → Calls Try.prog 88 #[.slice A n c, .slice B m d] wx fun e w' => e = .returned (.int .i64 r) ∧ Drn wx w')) : Calls Try.prog 92 #[.agg #[.bool false, .slice A n c], .agg #[.bool false, .slice B m d]] w fun e w' => e = .returned (.int .i64 r) ∧ Below w.heap.size w w' := by
  go_enter Try.func92, Try.ntmps92
  go_upto_region 1 with fail
  generalize hX : (w.alloc _).alloc _ = X
  have HX : Hid (Below w.heap.size w X) := by
    subst hX
    exact below_two w _ _
  obtain ⟨⟨k0, k1⟩, j0, j1⟩ : (X.cell? ⟨w.heap.size, 0, none⟩ = some (.bool false) ∧ X.cell? ⟨w.heap.size, 1, none⟩ = some (.slice A n c)) ∧ X.cell? ⟨w.heap.size + 1, 0, none⟩ = some (.bool false) ∧ X.cell? ⟨w.heap.size + 1, 1, none⟩ = some (.slice B m d) := by
    subst hX
    simp [go_sem]
  clear hX
  go_wp2_with fail
  (with_reducible refine (HC.out _ HX.out).mono ?_)
  rintro e w1 ⟨rfl, hB⟩
  have HB := Lib.hid (HX.out.trans (hB.below _))
  clear k0 k1 j0 j1 hB
  go_wp2_with fail
  go_ret
  exact ⟨rfl, HB.out⟩

set_option maxRecDepth 100000 in
set_option maxHeartbeats 20000000 in
theorem icmp_tt (A B : Option Addr) (n c m d : Nat) (r : Int) (w : World) (HC : Hid (∀ wx, Below w.heap.size w wx → Calls Try.prog 88 #[.slice B m d, .slice A n c] wx fun e w' => e = .returned (.int .i64 r) ∧ Drn wx w')) : Calls Try.prog 92 #[.agg #[.bool true, .slice A n c], .agg #[.bool true, .slice B m d]] w fun e w' => e = .returned (.int .i64 r) ∧ Below w.heap.size w w' := by
  go_enter Try.func92, Try.ntmps92
  go_upto_region 1 with fail
  generalize hX : (w.alloc _).alloc _ = X
  have HX : Hid (Below w.heap.size w X) := by
    subst hX
    exact below_two w _ _
  obtain ⟨⟨k0, k1⟩, j0, j1⟩ : (X.cell? ⟨w.heap.size, 0, none⟩ = some (.bool true) ∧ X.cell? ⟨w.heap.size, 1, none⟩ = some (.slice A n c)) ∧ X.cell? ⟨w.heap.size + 1, 0, none⟩ = some (.bool true) ∧ X.cell? ⟨w.heap.size + 1, 1, none⟩ = some (.slice B m d) := by
    subst hX
    simp [go_sem]
  clear hX
  go_wp2_with fail
  (with_reducible refine (HC.out _ HX.out).mono ?_)
  rintro e w1 ⟨rfl, hB⟩
  have HB := Lib.hid (HX.out.trans (hB.below _))
  clear k0 k1 j0 j1 hB
  go_wp2_with fail
  go_ret
  exact ⟨rfl, HB.out⟩

set_option maxRecDepth 100000 in
set_option maxHeartbeats 20000000 in
theorem icmp_tf (A B : Option Addr) (n c m d : Nat) (w : World) : Calls Try.prog 92 #[.agg #[.bool true, .slice A n c], .agg #[.bool false, .slice B m d]] w fun e w' => e = .returned (.int .i64 (-1)) ∧ Below w.heap.size w w' := by
  go_enter Try.func92, Try.ntmps92
  go_upto_region 1 with fail
  generalize hX : (w.alloc _).alloc _ = X
  have HX : Hid (Below w.heap.size w X) := by
    subst hX
    exact below_two w _ _
  obtain ⟨⟨k0, k1⟩, j0, j1⟩ : (X.cell? ⟨w.heap.size, 0, none⟩ = some (.bool true) ∧ X.cell? ⟨w.heap.size, 1, none⟩ = some (.slice A n c)) ∧ X.cell? ⟨w.heap.size + 1, 0, none⟩ = some (.bool false) ∧ X.cell? ⟨w.heap.size + 1, 1, none⟩ = some (.slice B m d) := by
    subst hX
    simp [go_sem]
  clear hX
  go_wp2_with fail
  go_ret
  exact ⟨rfl, HX.out⟩

set_option maxRecDepth 100000 in
set_option maxHeartbeats 20000000 in
theorem icmp_ft (A B : Option Addr) (n c m d : Nat) (w : World) : Calls Try.prog 92 #[.agg #[.bool false, .slice A n c], .agg #[.bool true, .slice B m d]] w fun e w' => e = .returned (.int .i64 1) ∧ Below w.heap.size w w' := by
  go_enter Try.func92, Try.ntmps92
  go_upto_region 1 with fail
  generalize hX : (w.alloc _).alloc _ = X
  have HX : Hid (Below w.heap.size w X) := by
    subst hX
    exact below_two w _ _
  obtain ⟨⟨k0, k1⟩, j0, j1⟩ : (X.cell? ⟨w.heap.size, 0, none⟩ = some (.bool false) ∧ X.cell? ⟨w.heap.size, 1, none⟩ = some (.slice A n c)) ∧ X.cell? ⟨w.heap.size + 1, 0, none⟩ = some (.bool true) ∧ X.cell? ⟨w.heap.size + 1, 1, none⟩ = some (.slice B m d) := by
    subst hX
    simp [go_sem]
  clear hX
  go_wp2_with fail
  go_ret
  exact ⟨rfl, HX.out⟩

theorem cmp_sgn (x y : Nat) : cmpI x y = sgnI ((x : Int) - y) := by
  unfold cmpI sgnI
  split
  · rw [if_pos (by omega)]
  · split
    · rw [if_neg (by omega), if_neg (by omega)]
    · rw [if_neg (by omega), if_pos (by omega)]
theorem pv_cmp {u u' : Value} {z z' : Int} {w : World} (h : PV w u z) (h' : PV w u' z') (hz : z.natAbs < W ^ 6) (hz' : z'.natAbs < W ^ 6) : Calls Try.prog 92 #[u, u'] w (RetW (.val (.int .i64 (sgnI (z - z')))) w) := by
  obtain ⟨b, A, n, c, rfl, hb, h1⟩ := h
  obtain ⟨b', B, m, d, rfl, hb', h2⟩ := h'
  have hb0 := hb.out
  have hb1 := hb'.out
  have hln := h1.len hz
  have hlm := h2.len hz'
  suffices H : Calls Try.prog 92 #[.agg #[.bool b, .slice A n c], .agg #[.bool b', .slice B m d]] w fun e w' => e = .returned (.int .i64 (sgnI (z - z'))) ∧ Below w.heap.size w w' by
    refine H.mono ?_
    rintro e w' ⟨rfl, hB⟩
    exact ⟨_, rfl, rfl, hB⟩
  cases b with
  | false =>
    have hz0 : 0 ≤ z := by have := of_decide_eq_false hb0.symm; omega
    cases b' with
    | false =>
      have hz0' : 0 ≤ z' := by have := of_decide_eq_false hb1.symm; omega
      have e : sgnI (z - z') = cmpI z.natAbs z'.natAbs := by rw [cmp_sgn]; congr 1; omega
      rw [e]
      exact icmp_ff A B n c m d _ w (Lib.hid fun wx hx => compD_any A B n m c d _ _ wx (h1.keep hx) (h2.keep hx) (by omega))
    | true =>
      have hz0' : z' < 0 := of_decide_eq_true hb1.symm
      have e : sgnI (z - z') = 1 := by unfold sgnI; rw [if_neg (by omega), if_neg (by omega)]
      rw [e]
      exact icmp_ft A B n c m d w
  | true =>
    have hz0 : z < 0 := of_decide_eq_true hb0.symm
    cases b' with
    | false =>
      have hz0' : 0 ≤ z' := by have := of_decide_eq_false hb1.symm; omega
      have e : sgnI (z - z') = -1 := by unfold sgnI; rw [if_pos (by omega)]
      rw [e]
      exact icmp_tf A B n c m d w
    | true =>
      have hz0' : z' < 0 := of_decide_eq_true hb1.symm
      have e : sgnI (z - z') = cmpI z'.natAbs z.natAbs := by rw [cmp_sgn]; congr 1; omega
      rw [e]
      exact icmp_tt A B n c m d _ w (Lib.hid fun wx hx => compD_any B A m n d c _ _ wx (h2.keep hx) (h1.keep hx) (by omega))
theorem pv_mul {u u' : Value} {z z' : Int} {w : World} (h : PV w u z) (h' : PV w u' z') (hz : z.natAbs < W ^ 3) (hz' : z'.natAbs < W ^ 3) : Calls Try.prog 73 #[u, u'] w (RetW (.pint (z * z')) w) := by
  obtain ⟨b, A, n, c, rfl, hb, h1⟩ := h
  obtain ⟨b', B, m, d, rfl, hb', h2⟩ := h'
  have := mulI_any b b' A B n m c d _ _ w h1 h2 (by have := h1.len hz; omega) (by have := h2.len hz'; omega)
  rw [hb.out, hb'.out, sgn_self, sgn_self] at this
  rw [hb.out, hb'.out]
  exact this.mono fun _ _ => RetJ.w
theorem qv_low {u : Value} {x : Rat} {w : World} (h : QV w u x) (hx : x.den < W ^ 3) : Calls Try.prog 71 #[u] w (RetW (.pint (x.den : Int)) w) := by
  obtain ⟨b, A, n, c, B, m, d, rfl, hQ⟩ := h
  refine (low_any b A B n c m d w hQ.low (by have := hQ.2.2.len hx; omega)).mono ?_
  rintro e w' ⟨rfl, hB⟩
  exact ⟨_, rfl, ⟨false, B, m, d, rfl, (decide_eq_false (by omega)).symm, by rw [Int.natAbs_natCast]; exact hQ.2.2.keep hB⟩, hB⟩
theorem qv_of (x : Rat) (w : World) (h1 : -9223372036854775808 ≤ x.num) (h2 : x.num ≤ 9223372036854775807) (h3 : x.den ≤ 9223372036854775807) : Calls Try.prog 37 #[.agg #[.int .i64 x.num, .int .i64 (x.den : Int)]] w (RetW (.prat x) w) := by
  refine (of_any x w h1 h2 h3).mono ?_
  rintro e w' ⟨A, n, c, B, m, d, rfl, k1, k2, k3⟩
  exact ⟨_, rfl, ⟨_, A, n, c, B, m, d, rfl, rfl, k1, k2⟩, k3⟩

/-- The boxes of two fractions. -/
structure FQ2 (w : World) (a b c d a' b' c' d' : Value) (wx : World) : Prop where
  below : Below w.heap.size w wx
  ba : B4 w.heap.size a b c d wx
  bb : B4 (w.heap.size + 1) a' b' c' d' wx
  za : w.heap.size < wx.heap.size
  zb : w.heap.size + 1 < wx.heap.size
theorem FQ2.keep {w : World} {a b c d a' b' c' d' : Value} (wx wy : World) (h : FQ2 w a b c d a' b' c' d' wx) (hb : Below wx.heap.size wx wy) : FQ2 w a b c d a' b' c' d' wy :=
  ⟨h.below.trans (hb.mono h.below.size), h.ba.keep h.za hb, h.bb.keep h.zb hb, Nat.lt_of_lt_of_le h.za hb.size, Nat.lt_of_lt_of_le h.zb hb.size⟩
/-- The order of two fractions. -/
def sgnR (x y : Rat) : Int := sgnI (x.num * (y.den : Int) - y.num * (x.den : Int))

set_option maxRecDepth 100000 in
set_option maxHeartbeats 20000000 in
theorem rcmp_walk (b1 b2 : Bool) (A1 B1 A2 B2 : Option Addr) (n1 c1 m1 d1 n2 c2 m2 d2 : Nat) (x y : Rat) (q p1 q1 p2 q2 t1 t2 : Int) (w : World)
    (H1 : Hid (QV w (.agg #[.bool b1, .slice A1 n1 c1, .bool false, .slice B1 m1 d1]) x)) (H2 : Hid (QV w (.agg #[.bool b2, .slice A2 n2 c2, .bool false, .slice B2 m2 d2]) y))
    (P1 : Hid (PV w (.agg #[.bool b1, .slice A1 n1 c1]) p1)) (P2 : Hid (PV w (.agg #[.bool b2, .slice A2 n2 c2]) p2))
    (HL1 : Hid (∀ wx u, QV wx u x → Calls Try.prog 71 #[u] wx (RetW (.pint q1) wx))) (HL2 : Hid (∀ wx u, QV wx u y → Calls Try.prog 71 #[u] wx (RetW (.pint q2) wx)))
    (HM1 : Hid (∀ wx u u', PV wx u p1 → PV wx u' q2 → Calls Try.prog 73 #[u, u'] wx (RetW (.pint t1) wx))) (HM2 : Hid (∀ wx u u', PV wx u p2 → PV wx u' q1 → Calls Try.prog 73 #[u, u'] wx (RetW (.pint t2) wx)))
    (HC : Hid (∀ wx u u', PV wx u t1 → PV wx u' t2 → Calls Try.prog 92 #[u, u'] wx (RetW (.val (.int .i64 q)) wx))) :
    Calls Try.prog 74 #[.agg #[.bool b1, .slice A1 n1 c1, .bool false, .slice B1 m1 d1], .agg #[.bool b2, .slice A2 n2 c2, .bool false, .slice B2 m2 d2]] w (RetW (.val (.int .i64 q)) w) := by
  go_enter Try.func74, Try.ntmps74
  go_upto_region 1 with fail
  generalize hX : (w.alloc _).alloc _ = X
  have HX : Hid (FQ2 w (.bool b1) (.slice A1 n1 c1) (.bool false) (.slice B1 m1 d1) (.bool b2) (.slice A2 n2 c2) (.bool false) (.slice B2 m2 d2) X) := by
    subst hX
    exact ⟨below_two w _ _, by simp [B4, go_sem], by simp [B4, go_sem], by simp; omega, by simp⟩
  clear hX
  refine wp_region_flow 12 [5, 6, 7, 8, 9, 10, 11, 12, 13, 14, 15, 4] (fun i => if i = 11 then 4 else 5 + i) (FQ2 w (.bool b1) (.slice A1 n1 c1) (.bool false) (.slice B1 m1 d1) (.bool b2) (.slice A2 n2 c2) (.bool false) (.slice B2 m2 d2)) (Sql [.val (.pointer (some ⟨w.heap.size, 0, none⟩)), .pint p1, .prat y, .pint q2, .pint t1, .val (.pointer (some ⟨w.heap.size + 1, 0, none⟩)), .pint p2, .prat x, .pint q1, .pint t2, .val (.int .i64 q), .val (.int .i64 q)]) (by kernel_rfl) (by kernel_rfl) (by kernel_rfl) (by kernel_rfl) (fun i j hi hj h => by have h : (if i = 11 then 4 else 5 + i) = (if j = 11 then 4 else 5 + j) := h; split at h <;> split at h <;> omega) (by decide) FQ2.keep Sql.keep ?_ ?_ ?_
  · exact HX.out.keep _ _ (Below.drew (Below.refl _ _))
  · intro i v wx o T' K ho hF hdep hin hout hK
    have hi : i < 12 := (Array.getElem?_eq_some_iff.1 ho).1
    have q5 := hin 5 (by decide)
    have q6 := hin 6 (by decide)
    have q7 := hin 7 (by decide)
    have q8 := hin 8 (by decide)
    have q9 := hin 9 (by decide)
    have q10 := hin 10 (by decide)
    have q11 := hin 11 (by decide)
    have q12 := hin 12 (by decide)
    have q13 := hin 13 (by decide)
    have q14 := hin 14 (by decide)
    have q15 := hin 15 (by decide)
    have q4 := hin 4 (by decide)
    have sl2 : T'[2]? = some (.pointer (some ⟨w.heap.size, 0, none⟩)) := (hout 2 (by decide)).trans rfl
    have sl3 : T'[3]? = some (.pointer (some ⟨w.heap.size + 1, 0, none⟩)) := (hout 3 (by decide)).trans rfl
    clear hin hout
    have HF := Lib.hid hF
    have HD := Lib.hid hdep
    clear hF hdep
    rcases (by omega : i = 0 ∨ i = 1 ∨ i = 2 ∨ i = 3 ∨ i = 4 ∨ i = 5 ∨ i = 6 ∨ i = 7 ∨ i = 8 ∨ i = 9 ∨ i = 10 ∨ i = 11) with rfl | rfl | rfl | rfl | rfl | rfl | rfl | rfl | rfl | rfl | rfl | rfl
    · obtain rfl := Option.some.inj ho
      clear q5 q6 q7 q8 q9 q10 q11 q12 q13 q14 q15 q4 sl3 ho hi
      go_simp
      exact hK _ _ (Below.refl _ _) rfl
    · obtain rfl := Option.some.inj ho
      have e1 : v 5 = (.pointer (some ⟨w.heap.size, 0, none⟩)) := HD.out ⟨0, .data⟩ (by simp) rfl
      rw [e1] at q5
      obtain ⟨k0, k1, k2, k3⟩ := HF.out.ba
      have hP := P1.out.keep HF.out.below
      clear q6 q7 q8 q9 q10 q11 q12 q13 q14 q15 q4 sl2 sl3 ho hi
      go_simp
      exact hK _ _ (Below.refl _ _) hP
    · obtain rfl := Option.some.inj ho
      obtain ⟨k0, k1, k2, k3⟩ := HF.out.bb
      have hP := H2.out.keep HF.out.below
      clear q5 q6 q7 q8 q9 q10 q11 q12 q13 q14 q15 q4 sl2 ho hi
      go_simp
      exact hK _ _ (Below.refl _ _) hP
    · obtain rfl := Option.some.inj ho
      have h0 : QV wx (v 7) y := HD.out ⟨2, .data⟩ (by simp) rfl
      clear q5 q6 q8 q9 q10 q11 q12 q13 q14 q15 q4 sl2 sl3 ho hi
      go_simp
      (with_reducible refine (HL2.out _ _ h0).mono ?_)
      rintro e w2 ⟨u, rfl, hu, hB⟩
      exact hK _ _ hB hu
    · obtain rfl := Option.some.inj ho
      have h0 : PV wx (v 6) p1 := HD.out ⟨1, .data⟩ (by simp) rfl
      have h1 : PV wx (v 8) q2 := HD.out ⟨3, .data⟩ (by simp) rfl
      clear q5 q7 q9 q10 q11 q12 q13 q14 q15 q4 sl2 sl3 ho hi
      go_simp
      (with_reducible refine (HM1.out _ _ _ h0 h1).mono ?_)
      rintro e w2 ⟨u, rfl, hu, hB⟩
      exact hK _ _ hB hu
    · obtain rfl := Option.some.inj ho
      clear q5 q6 q7 q8 q9 q10 q11 q12 q13 q14 q15 q4 sl2 ho hi
      go_simp
      exact hK _ _ (Below.refl _ _) rfl
    · obtain rfl := Option.some.inj ho
      have e1 : v 10 = (.pointer (some ⟨w.heap.size + 1, 0, none⟩)) := HD.out ⟨5, .data⟩ (by simp) rfl
      rw [e1] at q10
      obtain ⟨k0, k1, k2, k3⟩ := HF.out.bb
      have hP := P2.out.keep HF.out.below
      clear q5 q6 q7 q8 q9 q11 q12 q13 q14 q15 q4 sl2 sl3 ho hi
      go_simp
      exact hK _ _ (Below.refl _ _) hP
    · obtain rfl := Option.some.inj ho
      obtain ⟨k0, k1, k2, k3⟩ := HF.out.ba
      have hP := H1.out.keep HF.out.below
      clear q5 q6 q7 q8 q9 q10 q11 q12 q13 q14 q15 q4 sl3 ho hi
      go_simp
      exact hK _ _ (Below.refl _ _) hP
    · obtain rfl := Option.some.inj ho
      have h0 : QV wx (v 12) x := HD.out ⟨7, .data⟩ (by simp) rfl
      clear q5 q6 q7 q8 q9 q10 q11 q13 q14 q15 q4 sl2 sl3 ho hi
      go_simp
      (with_reducible refine (HL1.out _ _ h0).mono ?_)
      rintro e w2 ⟨u, rfl, hu, hB⟩
      exact hK _ _ hB hu
    · obtain rfl := Option.some.inj ho
      have h0 : PV wx (v 11) p2 := HD.out ⟨6, .data⟩ (by simp) rfl
      have h1 : PV wx (v 13) q1 := HD.out ⟨8, .data⟩ (by simp) rfl
      clear q5 q6 q7 q8 q9 q10 q12 q14 q15 q4 sl2 sl3 ho hi
      go_simp
      (with_reducible refine (HM2.out _ _ _ h0 h1).mono ?_)
      rintro e w2 ⟨u, rfl, hu, hB⟩
      exact hK _ _ hB hu
    · obtain rfl := Option.some.inj ho
      have h0 : PV wx (v 9) t1 := HD.out ⟨4, .data⟩ (by simp) rfl
      have h1 : PV wx (v 14) t2 := HD.out ⟨9, .data⟩ (by simp) rfl
      clear q5 q6 q7 q8 q10 q11 q12 q13 q15 q4 sl2 sl3 ho hi
      go_simp
      (with_reducible refine (HC.out _ _ _ h0 h1).mono ?_)
      rintro e w2 ⟨u, rfl, hu, hB⟩
      exact hK _ _ hB hu
    · obtain rfl := Option.some.inj ho
      have e0 : v 15 = (.int .i64 q) := HD.out ⟨10, .data⟩ (by simp) rfl
      rw [e0] at q15
      clear q5 q6 q7 q8 q9 q10 q11 q12 q13 q14 q4 sl2 sl3 ho hi
      go_simp
      exact hK _ _ (Below.refl _ _) rfl
  · intro v wx hF hall
    have h2 : v 4 = .int .i64 q := hall 11 (by decide)
    have HB := Lib.hid hF.below
    clear hF hall
    simp only [over, List.setIfInBounds_toArray, List.set_cons_zero, List.set_cons_succ]
    rw [h2]
    generalize v 5 = v5
    generalize v 6 = v6
    generalize v 7 = v7
    generalize v 8 = v8
    generalize v 9 = v9
    generalize v 10 = v10
    generalize v 11 = v11
    generalize v 12 = v12
    generalize v 13 = v13
    generalize v 14 = v14
    generalize v 15 = v15
    go_wp2_with fail
    go_ret
    exact ⟨_, rfl, rfl, HB.out⟩

theorem qv_cmp {u u' : Value} {x y : Rat} {w : World} (h : QV w u x) (h' : QV w u' y) (hx : x.num.natAbs < W ^ 3 ∧ x.den < W ^ 3) (hy : y.num.natAbs < W ^ 3 ∧ y.den < W ^ 3) : Calls Try.prog 74 #[u, u'] w (RetW (.val (.int .i64 (sgnR x y))) w) := by
  have H1 := Lib.hid h
  have H2 := Lib.hid h'
  obtain ⟨b1, A1, n1, c1, B1, m1, d1, rfl, hQ1⟩ := h
  obtain ⟨b2, A2, n2, c2, B2, m2, d2, rfl, hQ2⟩ := h'
  have hdx : ((x.den : Int)).natAbs < W ^ 3 := by rw [Int.natAbs_natCast]; exact hx.2
  have hdy : ((y.den : Int)).natAbs < W ^ 3 := by rw [Int.natAbs_natCast]; exact hy.2
  exact rcmp_walk b1 b2 A1 B1 A2 B2 n1 c1 m1 d1 n2 c2 m2 d2 x y _ x.num (x.den : Int) y.num (y.den : Int) (x.num * (y.den : Int)) (y.num * (x.den : Int)) w H1 H2 ⟨b1, A1, n1, c1, rfl, hQ1.1, hQ1.2.1⟩ ⟨b2, A2, n2, c2, rfl, hQ2.1, hQ2.2.1⟩
    (Lib.hid fun wx u k => qv_low k hx.2) (Lib.hid fun wx u k => qv_low k hy.2) (Lib.hid fun wx u u' k1 k2 => pv_mul k1 k2 hx.1 hdy) (Lib.hid fun wx u u' k1 k2 => pv_mul k1 k2 hy.1 hdx) (Lib.hid fun wx u u' k1 k2 => pv_cmp k1 k2 (by rw [Int.natAbs_mul]; exact mul_lt_pow (n := 3) (m := 3) hx.1 hdy) (by rw [Int.natAbs_mul]; exact mul_lt_pow (n := 3) (m := 3) hy.1 hdx))

end Go.Proofs.Ytjoanclnaeephaa

namespace Go.Proofs.Ytjoanclnaeephaa

/-- The simplest fraction from a/l to b/m, in k steps. -/
def simpN : Nat → Nat → Nat → Nat → Nat → Nat × Nat
  | 0, _, _, _, _ => (0, 1)
  | k + 1, a, l, b, m => if a / l * l = a then (a / l, 1) else if a / l < b / m then (a / l + 1, 1) else
      (a / l * (simpN k m (b - a / l * m) l (a - a / l * l)).1 + (simpN k m (b - a / l * m) l (a - a / l * l)).2, (simpN k m (b - a / l * m) l (a - a / l * l)).1)

/-- A fraction of the range such that no fraction of the range has a lesser part. -/
structure Best (a l b m : Nat) (r : Nat × Nat) : Prop where
  pos1 : 0 < r.1
  pos2 : 0 < r.2
  ge : a * r.2 ≤ r.1 * l
  le : r.1 * m ≤ b * r.2
  cop : Nat.gcd r.1 r.2 = 1
  least : ∀ c d, 0 < d → a * d ≤ c * l → c * m ≤ b * d → r.2 ≤ d ∧ r.1 ≤ c

theorem simp_facts {a l b m : Nat} (hl : 0 < l) (hm : 0 < m) (hab : a * m ≤ b * l) (h1 : ¬ a / l * l = a) (h2 : ¬ a / l < b / m) :
    ∃ n r s, a / l = n ∧ a = n * l + r ∧ b = n * m + s ∧ 0 < r ∧ r < l ∧ 0 < s ∧ s < m ∧ r * m ≤ s * l ∧ b - a / l * m = s ∧ a - a / l * l = r := by
  obtain ⟨n, hn⟩ : ∃ n, a / l = n := ⟨_, rfl⟩
  have ea : a = n * l + a % l := by
    have := Nat.div_add_mod a l
    rw [hn, Nat.mul_comm] at this
    omega
  have hr := Nat.mod_lt a hl
  obtain ⟨r, hrr⟩ : ∃ r, a % l = r := ⟨_, rfl⟩
  rw [hrr] at ea hr
  rw [hn] at h1 h2 ⊢
  have hr0 : 0 < r := by omega
  have hnb : n ≤ b / m := by
    rw [Nat.le_div_iff_mul_le hm]
    refine Nat.le_of_mul_le_mul_right (c := l) ?_ hl
    have : n * m * l ≤ a * m := by
      rw [ea, Nat.add_mul, Nat.mul_right_comm]
      exact Nat.le_add_right _ _
    omega
  have eb : b = n * m + b % m := by
    have := Nat.div_add_mod b m
    rw [show b / m = n by omega, Nat.mul_comm] at this
    omega
  have hs := Nat.mod_lt b hm
  obtain ⟨s, hss⟩ : ∃ s, b % m = s := ⟨_, rfl⟩
  rw [hss] at eb hs
  have hrs : r * m ≤ s * l := by
    have e1 : a * m = n * l * m + r * m := by rw [ea, Nat.add_mul]
    have e2 : b * l = n * m * l + s * l := by rw [eb, Nat.add_mul]
    have e3 : n * l * m = n * m * l := Nat.mul_right_comm _ _ _
    omega
  have hs0 : 0 < s := by
    rcases Nat.eq_zero_or_pos s with h | h
    · rw [h, Nat.zero_mul] at hrs
      have := Nat.mul_pos hr0 hm
      omega
    · exact h
  exact ⟨n, r, s, rfl, ea, eb, hr0, hr, hs0, hs, hrs, by omega, by omega⟩

theorem simpN_best : ∀ k a l b m, l + m ≤ k → 0 < a → 0 < l → 0 < m → a * m ≤ b * l → Best a l b m (simpN k a l b m)
  | 0, _, _, _, _, hk, _, hl, _, _ => by omega
  | k + 1, a, l, b, m, hk, ha, hl, hm, hab => by
    rw [simpN]
    by_cases h1 : a / l * l = a
    · rw [if_pos h1]
      obtain ⟨n, hn⟩ : ∃ n, a / l = n := ⟨_, rfl⟩
      rw [hn] at h1 ⊢
      subst h1
      have hn0 : 0 < n := Nat.pos_of_mul_pos_right ha
      refine ⟨hn0, Nat.one_pos, by simp, ?_, Nat.gcd_one_right n, fun c d hd h2 _ => ⟨hd, ?_⟩⟩
      · show n * m ≤ b * 1
        refine Nat.le_of_mul_le_mul_right (c := l) ?_ hl
        rw [Nat.mul_one, Nat.mul_right_comm]
        exact hab
      · have h3 : n * d ≤ c := by
          refine Nat.le_of_mul_le_mul_right (c := l) ?_ hl
          rw [Nat.mul_right_comm]
          exact h2
        exact Nat.le_trans (Nat.le_mul_of_pos_right n hd) h3
    · rw [if_neg h1]
      by_cases h2 : a / l < b / m
      · rw [if_pos h2]
        obtain ⟨n, hn⟩ : ∃ n, a / l = n := ⟨_, rfl⟩
        have ea : a = n * l + a % l := by
          have := Nat.div_add_mod a l
          rw [hn, Nat.mul_comm] at this
          omega
        have hr := Nat.mod_lt a hl
        obtain ⟨r, hrr⟩ : ∃ r, a % l = r := ⟨_, rfl⟩
        rw [hrr] at ea hr
        rw [hn] at h1 h2 ⊢
        have hr0 : 0 < r := by omega
        refine ⟨Nat.succ_pos n, Nat.one_pos, ?_, ?_, Nat.gcd_one_right _, fun c d hd h3 _ => ⟨hd, ?_⟩⟩
        · show a * 1 ≤ (n + 1) * l
          rw [Nat.add_mul]
          omega
        · show (n + 1) * m ≤ b * 1
          have := (Nat.le_div_iff_mul_le hm).1 (show n + 1 ≤ b / m from h2)
          omega
        · have h4 : n * d < c := by
            refine Nat.lt_of_mul_lt_mul_right (a := l) ?_
            have e1 : a * d = n * l * d + r * d := by rw [ea, Nat.add_mul]
            have e2 : n * l * d = n * d * l := Nat.mul_right_comm _ _ _
            have := Nat.mul_pos hr0 hd
            omega
          have := Nat.le_mul_of_pos_right n hd
          show n + 1 ≤ c
          omega
      · rw [if_neg h2]
        obtain ⟨n, r, s, hn, ea, eb, hr0, hr, hs0, hs, hrs, es, er⟩ := simp_facts hl hm hab h1 h2
        rw [es, er, hn]
        have hk' : s + r ≤ k := by omega
        have B := simpN_best k m s l r hk' hm hs0 hr0 (by rw [Nat.mul_comm m r, Nat.mul_comm l s]; exact hrs)
        obtain ⟨p, q, hpq⟩ : ∃ p q, simpN k m s l r = (p, q) := ⟨_, _, rfl⟩
        rw [hpq] at B ⊢
        obtain ⟨b1, b2, b3, b4, b5, b6⟩ := B
        refine ⟨?_, b1, ?_, ?_, ?_, fun c d hd h3 h4 => ?_⟩
        · show 0 < n * p + q
          exact Nat.lt_of_lt_of_le b2 (Nat.le_add_left _ _)
        · show a * p ≤ (n * p + q) * l
          have e1 : a * p = n * l * p + r * p := by rw [ea, Nat.add_mul]
          have e2 : (n * p + q) * l = n * p * l + q * l := Nat.add_mul _ _ _
          have e3 : n * l * p = n * p * l := Nat.mul_right_comm _ _ _
          have e4 : p * r ≤ l * q := b4
          have e5 : r * p = p * r := Nat.mul_comm _ _
          have e6 : q * l = l * q := Nat.mul_comm _ _
          omega
        · show (n * p + q) * m ≤ b * p
          have e1 : b * p = n * m * p + s * p := by rw [eb, Nat.add_mul]
          have e2 : (n * p + q) * m = n * p * m + q * m := Nat.add_mul _ _ _
          have e3 : n * m * p = n * p * m := Nat.mul_right_comm _ _ _
          have e4 : m * q ≤ p * s := b3
          have e5 : s * p = p * s := Nat.mul_comm _ _
          have e6 : q * m = m * q := Nat.mul_comm _ _
          omega
        · show Nat.gcd (n * p + q) p = 1
          rw [Nat.gcd_comm, Nat.mul_comm n p, Nat.gcd_mul_left_add_right]
          exact b5
        · show p ≤ d ∧ n * p + q ≤ c
          have e1 : a * d = n * l * d + r * d := by rw [ea, Nat.add_mul]
          have e2 : n * l * d = n * d * l := Nat.mul_right_comm _ _ _
          have hcd : n * d ≤ c := by
            refine Nat.le_of_mul_le_mul_right (c := l) ?_ hl
            omega
          obtain ⟨e, he⟩ : ∃ e, c = n * d + e := ⟨c - n * d, by omega⟩
          have e3 : c * l = n * d * l + e * l := by rw [he, Nat.add_mul]
          have e4 : c * m = n * d * m + e * m := by rw [he, Nat.add_mul]
          have e5 : b * d = n * m * d + s * d := by rw [eb, Nat.add_mul]
          have e6 : n * m * d = n * d * m := Nat.mul_right_comm _ _ _
          have h5 : r * d ≤ e * l := by omega
          have h6 : e * m ≤ s * d := by omega
          have he0 : 0 < e := by
            rcases Nat.eq_zero_or_pos e with h | h
            · rw [h, Nat.zero_mul] at h5
              have := Nat.mul_pos hr0 hd
              omega
            · exact h
          have := b6 d e he0 (by rw [Nat.mul_comm m e, Nat.mul_comm d s]; exact h6) (by rw [Nat.mul_comm d r, Nat.mul_comm l e]; exact h5)
          obtain ⟨f1, f2⟩ := this
          refine ⟨f2, ?_⟩
          have f2' : p ≤ d := f2
          have := Nat.mul_le_mul_left n f2'
          have f1' : q ≤ e := f1
          omega

end Go.Proofs.Ytjoanclnaeephaa

namespace Go.Proofs.Ytjoanclnaeephaa
open Go.RowKit

/-- Three boxes of numbers, the last one writable. -/
theorem nboxes3 (w : World) (t l t' l' : Value) : ∃ X, ((w.alloc (.cells #[t, l] 23)).alloc (.cells #[t', l'] 23)).alloc (.cells #[.int .i64 0, .int .i64 0] 23) = X ∧ Below w.heap.size w X ∧ B2n w.heap.size t l X ∧ B2n (w.heap.size + 1) t' l' X ∧ Wr (w.heap.size + 1 + 1) 23 X :=
  ⟨_, rfl, (((Below.refl _ _).alloc (Nat.le_refl _) _).alloc (by simp) _).alloc (by simp; omega) _, by simp [B2n, go_sem], by simp [B2n, go_sem], Wr.new _ _ _ _ (by simp)⟩

set_option maxRecDepth 100000 in
set_option maxHeartbeats 20000000 in
theorem simp_one (a l b m n x : Int) (w : World) (hn : a.tdiv l = n) (g0 : l ≠ 0) (w0 : IntKind.i64.wrap n = n) (w1 : IntKind.i64.wrap (n * l) = x) (c1 : (x == a) = true) :
    Calls Try.prog 41 #[.agg #[.int .i64 a, .int .i64 l], .agg #[.int .i64 b, .int .i64 m]] w fun e w' => e = .returned (.agg #[.int .i64 n, .int .i64 1]) ∧ Below w.heap.size w w' := by
  go_enter Try.func41, Try.ntmps41
  go_upto_region 1 with fail
  obtain ⟨X, hX, hwX, ⟨k0, k1, -⟩, ⟨j0, j1, -⟩, ⟨o1, o2, o3, o4⟩, o5, o6, -⟩ := nboxes3 w (.int .i64 a) (.int .i64 l) (.int .i64 b) (.int .i64 m)
  rw [hX]
  have HwX := Lib.hid hwX
  clear hX hwX
  go_wp2_with fail
  exact bodyPost_ret (v := .agg #[.int .i64 n, .int .i64 1]) (by simp [results, Try.results41, go_sem, o3, o4]) rfl ⟨rfl, (HwX.out.setCell (Nat.le_trans (Nat.le_succ _) (Nat.le_succ _)) _).setCell (Nat.le_trans (Nat.le_succ _) (Nat.le_succ _)) _⟩

set_option maxRecDepth 100000 in
set_option maxHeartbeats 20000000 in
theorem simp_next (a l b m n x k n1 : Int) (w : World) (hn : a.tdiv l = n) (hk : b.tdiv m = k) (g0 : l ≠ 0) (g1 : m ≠ 0) (w0 : IntKind.i64.wrap n = n) (w1 : IntKind.i64.wrap (n * l) = x) (w2 : IntKind.i64.wrap k = k) (w3 : IntKind.i64.wrap (n + 1) = n1)
    (c1 : (x == a) = false) (c2 : decide (n < k) = true) :
    Calls Try.prog 41 #[.agg #[.int .i64 a, .int .i64 l], .agg #[.int .i64 b, .int .i64 m]] w fun e w' => e = .returned (.agg #[.int .i64 n1, .int .i64 1]) ∧ Below w.heap.size w w' := by
  go_enter Try.func41, Try.ntmps41
  go_upto_region 1 with fail
  obtain ⟨X, hX, hwX, ⟨k0, k1, -⟩, ⟨j0, j1, -⟩, ⟨o1, o2, o3, o4⟩, o5, o6, -⟩ := nboxes3 w (.int .i64 a) (.int .i64 l) (.int .i64 b) (.int .i64 m)
  rw [hX]
  have HwX := Lib.hid hwX
  clear hX hwX
  go_wp2_with fail
  exact bodyPost_ret (v := .agg #[.int .i64 n1, .int .i64 1]) (by simp [results, Try.results41, go_sem, o3, o4]) rfl ⟨rfl, (HwX.out.setCell (Nat.le_trans (Nat.le_succ _) (Nat.le_succ _)) _).setCell (Nat.le_trans (Nat.le_succ _) (Nat.le_succ _)) _⟩

set_option maxRecDepth 100000 in
set_option maxHeartbeats 20000000 in
theorem simp_rec (a l b m n x k y s r p q z t : Int) (w : World) (hn : a.tdiv l = n) (hk : b.tdiv m = k) (g0 : l ≠ 0) (g1 : m ≠ 0) (e0 : IntKind.i64.wrap n = n) (e1 : IntKind.i64.wrap (n * l) = x) (e2 : IntKind.i64.wrap k = k) (e3 : IntKind.i64.wrap (n * m) = y) (e4 : IntKind.i64.wrap (b - y) = s) (e5 : IntKind.i64.wrap (a - x) = r)
    (e6 : IntKind.i64.wrap (n * p) = z) (e7 : IntKind.i64.wrap (z + q) = t) (c1 : (x == a) = false) (c2 : decide (n < k) = false)
    (HR : Hid (∀ wx, Calls Try.prog 41 #[.agg #[.int .i64 m, .int .i64 s], .agg #[.int .i64 l, .int .i64 r]] wx fun e w' => e = .returned (.agg #[.int .i64 p, .int .i64 q]) ∧ Below wx.heap.size wx w')) :
    Calls Try.prog 41 #[.agg #[.int .i64 a, .int .i64 l], .agg #[.int .i64 b, .int .i64 m]] w fun e w' => e = .returned (.agg #[.int .i64 t, .int .i64 p]) ∧ Below w.heap.size w w' := by
  go_enter Try.func41, Try.ntmps41
  go_upto_region 1 with fail
  obtain ⟨X, hX, hwX, ⟨k0, k1, -⟩, ⟨j0, j1, -⟩, hW⟩ := nboxes3 w (.int .i64 a) (.int .i64 l) (.int .i64 b) (.int .i64 m)
  rw [hX]
  have HwX := Lib.hid hwX
  have HW := Lib.hid hW
  clear hX hwX hW
  go_upto_region 6 with fail
  go_wp2_with fail
  (with_reducible refine (HR.out _).mono ?_)
  rintro e w1 ⟨rfl, hB1⟩
  have HB1 := Lib.hid (HwX.out.trans (hB1.mono HwX.out.size))
  have HW1 := Lib.hid (HW.out.keep hB1)
  clear k0 k1 j0 j1 hB1 c1 c2 hn hk g0 g1 e0 e1 e2 e3 e4 e5
  go_upto_region 7 with fail
  generalize hY : w1.alloc _ = Y
  have HY : Hid (Below w.heap.size w Y ∧ Wr (w.heap.size + 1 + 1) 23 Y) := by
    have hB : Below w1.heap.size w1 Y := by subst hY; exact below_alloc _ _
    exact ⟨HB1.out.trans (hB.mono HB1.out.size), HW1.out.keep hB⟩
  obtain ⟨y0, y1⟩ : Y.cell? ⟨w1.heap.size, 0, none⟩ = some (.int .i64 p) ∧ Y.cell? ⟨w1.heap.size, 1, none⟩ = some (.int .i64 q) := by
    subst hY
    simp [go_sem]
  obtain ⟨⟨o1, o2, o3, o4⟩, o5, o6, -⟩ := HY.out.2
  clear hY HB1 HW1 HwX HW
  go_wp2_with fail
  exact bodyPost_ret (v := .agg #[.int .i64 t, .int .i64 p]) (by simp [results, Try.results41, go_sem, o3, o4]) rfl ⟨rfl, (HY.out.1.setCell (Nat.le_trans (Nat.le_succ _) (Nat.le_succ _)) _).setCell (Nat.le_trans (Nat.le_succ _) (Nat.le_succ _)) _⟩

set_option maxRecDepth 100000 in
set_option maxHeartbeats 20000000 in
theorem negative_any (a l n : Int) (w : World) (w0 : IntKind.i64.wrap (-a) = n) :
    Calls Try.prog 42 #[.agg #[.int .i64 a, .int .i64 l]] w fun e w' => e = .returned (.agg #[.int .i64 n, .int .i64 l]) ∧ Below w.heap.size w w' := by
  go_enter Try.func42, Try.ntmps42
  go_upto_region 1 with fail
  generalize hX : (w.alloc _).alloc _ = X
  have HX : Hid (Below w.heap.size w X) := by
    subst hX
    exact below_two w _ _
  obtain ⟨⟨k0, k1⟩, ⟨o1, o2, o3, o4⟩, o5, o6, -⟩ : (X.cell? ⟨w.heap.size, 0, none⟩ = some (.int .i64 a) ∧ X.cell? ⟨w.heap.size, 1, none⟩ = some (.int .i64 l)) ∧ Wr (w.heap.size + 1) 23 X := by
    subst hX
    exact ⟨by simp [go_sem], Wr.new _ _ _ _ (by simp)⟩
  clear hX
  go_wp2_with fail
  exact bodyPost_ret (v := .agg #[.int .i64 n, .int .i64 l]) (by simp [results, Try.results42, go_sem, o3, o4]) rfl ⟨rfl, (HX.out.setCell (Nat.le_succ _) _).setCell (Nat.le_succ _) _⟩

end Go.Proofs.Ytjoanclnaeephaa

namespace Go.Proofs.Ytjoanclnaeephaa
open Go.RowKit

theorem wrap_nat (x : Nat) (h : x ≤ 4611686018427387904) : IntKind.i64.wrap (x : Int) = (x : Int) := IntWalk.i64_in _ (by omega)

theorem simplest_any : ∀ (k a l b m : Nat) (w : World), l + m ≤ k → 0 < a → 0 < l → 0 < m → a * m ≤ b * l → a ≤ 1152921504606846976 → l ≤ 1152921504606846976 → b ≤ 1152921504606846976 → m ≤ 1152921504606846976 →
    Calls Try.prog 41 #[.agg #[.int .i64 (a : Int), .int .i64 (l : Int)], .agg #[.int .i64 (b : Int), .int .i64 (m : Int)]] w fun e w' => e = .returned (.agg #[.int .i64 ((simpN k a l b m).1 : Int), .int .i64 ((simpN k a l b m).2 : Int)]) ∧ Below w.heap.size w w'
  | 0, _, _, _, _, _, hk, _, hl, _, _, _, _, _, _ => by omega
  | k + 1, a, l, b, m, w, hk, ha, hl, hm, hab, Ma, Ml, Mb, Mm => by
    have hn : ((a : Int)).tdiv (l : Int) = ((a / l : Nat) : Int) := (Int.ofNat_tdiv a l).symm
    have hkk : ((b : Int)).tdiv (m : Int) = ((b / m : Nat) : Int) := (Int.ofNat_tdiv b m).symm
    have l0 : (l : Int) ≠ 0 := by omega
    have m0 : (m : Int) ≠ 0 := by omega
    have hna : a / l ≤ a := Nat.div_le_self _ _
    have hkb : b / m ≤ b := Nat.div_le_self _ _
    have hnl : a / l * l ≤ a := Nat.div_mul_le_self _ _
    have e0 : IntKind.i64.wrap ((a / l : Nat) : Int) = ((a / l : Nat) : Int) := wrap_nat _ (by omega)
    have e1 : IntKind.i64.wrap (((a / l : Nat) : Int) * (l : Int)) = ((a / l * l : Nat) : Int) := by
      rw [← Int.natCast_mul]
      exact wrap_nat _ (by omega)
    have e2 : IntKind.i64.wrap ((b / m : Nat) : Int) = ((b / m : Nat) : Int) := wrap_nat _ (by omega)
    by_cases h1 : a / l * l = a
    · have e : simpN (k + 1) a l b m = (a / l, 1) := by rw [simpN, if_pos h1]
      rw [e]
      exact simp_one a l b m _ _ w hn l0 e0 e1 (by rw [h1]; exact beq_self_eq_true _)
    · have c1 : (((a / l * l : Nat) : Int) == (a : Int)) = false := beq_eq_false_iff_ne.2 (by omega)
      by_cases h2 : a / l < b / m
      · have e : simpN (k + 1) a l b m = (a / l + 1, 1) := by rw [simpN, if_neg h1, if_pos h2]
        rw [e]
        have e3 : IntKind.i64.wrap (((a / l : Nat) : Int) + 1) = ((a / l + 1 : Nat) : Int) := wrap_nat _ (Nat.le_trans (Nat.succ_le_of_lt h2) (Nat.le_trans hkb (Nat.le_trans Mb (by decide))))
        exact simp_next a l b m _ _ _ _ w hn hkk l0 m0 e0 e1 e2 e3 c1 (decide_eq_true (by omega))
      · have B := simpN_best (k + 1) a l b m hk ha hl hm hab
        have hle := (B.least a l hl (Nat.le_refl _) hab).2
        have e : simpN (k + 1) a l b m = (a / l * (simpN k m (b - a / l * m) l (a - a / l * l)).1 + (simpN k m (b - a / l * m) l (a - a / l * l)).2, (simpN k m (b - a / l * m) l (a - a / l * l)).1) := by rw [simpN, if_neg h1, if_neg h2]
        rw [e] at hle ⊢
        obtain ⟨n, r, s, hn', ea, eb, hr0, hr, hs0, hs, hrs, es, er⟩ := simp_facts hl hm hab h1 h2
        rw [es, er, hn'] at hle ⊢
        rw [hn'] at hn e0 e1 c1 h2 es er
        have IH := fun wx => simplest_any k m s l r wx (by omega) hm hs0 hr0 (by rw [Nat.mul_comm m r, Nat.mul_comm l s]; exact hrs) Mm (by omega) Ml (by omega)
        obtain ⟨p, q, hpq⟩ : ∃ p q, simpN k m s l r = (p, q) := ⟨_, _, rfl⟩
        rw [hpq] at hle IH ⊢
        have hle' : n * p + q ≤ a := hle
        have e3 : IntKind.i64.wrap ((n : Int) * (m : Int)) = ((n * m : Nat) : Int) := by
          rw [← Int.natCast_mul]
          exact wrap_nat _ (by omega)
        have e4 : IntKind.i64.wrap ((b : Int) - ((n * m : Nat) : Int)) = (s : Int) := by
          rw [show (b : Int) - ((n * m : Nat) : Int) = (s : Int) by omega]
          exact IntWalk.i64_in _ (by omega)
        have e5 : IntKind.i64.wrap ((a : Int) - ((n * l : Nat) : Int)) = (r : Int) := by
          rw [show (a : Int) - ((n * l : Nat) : Int) = (r : Int) by omega]
          exact IntWalk.i64_in _ (by omega)
        have e6 : IntKind.i64.wrap ((n : Int) * (p : Int)) = ((n * p : Nat) : Int) := by
          rw [← Int.natCast_mul]
          exact wrap_nat _ (by omega)
        have e7 : IntKind.i64.wrap (((n * p : Nat) : Int) + (q : Int)) = ((n * p + q : Nat) : Int) := IntWalk.i64_in _ (by omega)
        exact simp_rec a l b m n _ _ _ s r p q _ _ w hn hkk l0 m0 e0 e1 e2 e3 e4 e5 e6 e7 c1 (decide_eq_false (by omega)) (Lib.hid IH)

end Go.Proofs.Ytjoanclnaeephaa

namespace Go.Proofs.Ytjoanclnaeephaa
open Go.RowKit

/-- The boxes of two numbers. -/
structure FN4 (w : World) (a b a' b' : Value) (wx : World) : Prop where
  below : Below w.heap.size w wx
  ba : B2n w.heap.size a b wx
  bb : B2n (w.heap.size + 1) a' b' wx
theorem FN4.keep {w : World} {a b a' b' : Value} (wx wy : World) (h : FN4 w a b a' b' wx) (hb : Below wx.heap.size wx wy) : FN4 w a b a' b' wy :=
  ⟨h.below.trans (hb.mono h.below.size), h.ba.keep hb, h.bb.keep hb⟩

set_option maxRecDepth 100000 in
set_option maxHeartbeats 20000000 in
theorem ncmp_bad1 (t1 l1 t2 l2 : Int) (w : World) (HV1 : Hid (∀ wx, Calls Try.prog 35 #[.agg #[.int .i64 t1, .int .i64 l1]] wx fun e w' => e = .returned (.bool false) ∧ Below wx.heap.size wx w')) : Calls Try.prog 40 #[.agg #[.int .i64 t1, .int .i64 l1], .agg #[.int .i64 t2, .int .i64 l2]] w fun e w' => e = .returned (.tuple #[.int .i64 0, .int .i64 1]) ∧ Below w.heap.size w w' := by
  go_enter Try.func40, Try.ntmps40
  go_upto_region 1 with fail
  generalize hX : (w.alloc _).alloc _ = X
  have HX : Hid (FN4 w (.int .i64 t1) (.int .i64 l1) (.int .i64 t2) (.int .i64 l2) X) := by
    subst hX
    exact ⟨below_two w _ _, by simp [B2n, go_sem], by simp [B2n, go_sem]⟩
  clear hX
  obtain ⟨k0, k1, -⟩ := HX.out.ba
  obtain ⟨j0, j1, -⟩ := HX.out.bb
  go_wp2_with fail
  (with_reducible refine (HV1.out _).mono ?_)
  rintro e w1 ⟨rfl, hB1⟩
  have HX1 := Lib.hid (HX.out.keep _ _ hB1)
  clear k0 k1 j0 j1 hB1 HX
  go_wp2_with fail
  exact bodyPost_ret (v := .tuple #[.int .i64 0, .int .i64 1]) (by simp [results, Try.results40, go_sem]) rfl ⟨rfl, HX1.out.below⟩

set_option maxRecDepth 100000 in
set_option maxHeartbeats 20000000 in
theorem ncmp_bad2 (t1 l1 t2 l2 : Int) (w : World) (HV1 : Hid (∀ wx, Calls Try.prog 35 #[.agg #[.int .i64 t1, .int .i64 l1]] wx fun e w' => e = .returned (.bool true) ∧ Below wx.heap.size wx w')) (HV2 : Hid (∀ wx, Calls Try.prog 35 #[.agg #[.int .i64 t2, .int .i64 l2]] wx fun e w' => e = .returned (.bool false) ∧ Below wx.heap.size wx w')) : Calls Try.prog 40 #[.agg #[.int .i64 t1, .int .i64 l1], .agg #[.int .i64 t2, .int .i64 l2]] w fun e w' => e = .returned (.tuple #[.int .i64 0, .int .i64 1]) ∧ Below w.heap.size w w' := by
  go_enter Try.func40, Try.ntmps40
  go_upto_region 1 with fail
  generalize hX : (w.alloc _).alloc _ = X
  have HX : Hid (FN4 w (.int .i64 t1) (.int .i64 l1) (.int .i64 t2) (.int .i64 l2) X) := by
    subst hX
    exact ⟨below_two w _ _, by simp [B2n, go_sem], by simp [B2n, go_sem]⟩
  clear hX
  obtain ⟨k0, k1, -⟩ := HX.out.ba
  obtain ⟨j0, j1, -⟩ := HX.out.bb
  go_wp2_with fail
  (with_reducible refine (HV1.out _).mono ?_)
  rintro e w1 ⟨rfl, hB1⟩
  have HX1 := Lib.hid (HX.out.keep _ _ hB1)
  clear k0 k1 j0 j1 hB1 HX
  obtain ⟨k0, k1, -⟩ := HX1.out.ba
  obtain ⟨j0, j1, -⟩ := HX1.out.bb
  go_wp2_with fail
  (with_reducible refine (HV2.out _).mono ?_)
  rintro e w2 ⟨rfl, hB2⟩
  have HX2 := Lib.hid (HX1.out.keep _ _ hB2)
  clear k0 k1 j0 j1 hB2 HX1
  go_wp2_with fail
  exact bodyPost_ret (v := .tuple #[.int .i64 0, .int .i64 1]) (by simp [results, Try.results40, go_sem]) rfl ⟨rfl, HX2.out.below⟩

set_option maxRecDepth 100000 in
set_option maxHeartbeats 20000000 in
theorem ncmp_ok (t1 l1 t2 l2 q : Int) (x y : Rat) (w : World) (HV1 : Hid (∀ wx, Calls Try.prog 35 #[.agg #[.int .i64 t1, .int .i64 l1]] wx fun e w' => e = .returned (.bool true) ∧ Below wx.heap.size wx w')) (HV2 : Hid (∀ wx, Calls Try.prog 35 #[.agg #[.int .i64 t2, .int .i64 l2]] wx fun e w' => e = .returned (.bool true) ∧ Below wx.heap.size wx w'))
    (HO1 : Hid (∀ wx, Calls Try.prog 37 #[.agg #[.int .i64 t1, .int .i64 l1]] wx (RetW (.prat x) wx))) (HO2 : Hid (∀ wx, Calls Try.prog 37 #[.agg #[.int .i64 t2, .int .i64 l2]] wx (RetW (.prat y) wx)))
    (HC : Hid (∀ wx u u', QV wx u x → QV wx u' y → Calls Try.prog 74 #[u, u'] wx (RetW (.val (.int .i64 q)) wx))) : Calls Try.prog 40 #[.agg #[.int .i64 t1, .int .i64 l1], .agg #[.int .i64 t2, .int .i64 l2]] w fun e w' => e = .returned (.tuple #[.int .i64 q, .int .i64 0]) ∧ Below w.heap.size w w' := by
  go_enter Try.func40, Try.ntmps40
  go_upto_region 1 with fail
  generalize hX : (w.alloc _).alloc _ = X
  have HX : Hid (FN4 w (.int .i64 t1) (.int .i64 l1) (.int .i64 t2) (.int .i64 l2) X) := by
    subst hX
    exact ⟨below_two w _ _, by simp [B2n, go_sem], by simp [B2n, go_sem]⟩
  clear hX
  obtain ⟨k0, k1, -⟩ := HX.out.ba
  obtain ⟨j0, j1, -⟩ := HX.out.bb
  go_wp2_with fail
  (with_reducible refine (HV1.out _).mono ?_)
  rintro e w1 ⟨rfl, hB1⟩
  have HX1 := Lib.hid (HX.out.keep _ _ hB1)
  clear k0 k1 j0 j1 hB1 HX
  obtain ⟨k0, k1, -⟩ := HX1.out.ba
  obtain ⟨j0, j1, -⟩ := HX1.out.bb
  go_wp2_with fail
  (with_reducible refine (HV2.out _).mono ?_)
  rintro e w2 ⟨rfl, hB2⟩
  have HX2 := Lib.hid (HX1.out.keep _ _ hB2)
  clear k0 k1 j0 j1 hB2 HX1
  go_upto_region 3 with fail
  refine wp_region_flow 7 [14, 15, 16, 17, 18, 4, 5] (fun i => if i = 5 then 4 else if i = 6 then 5 else 14 + i) (FN4 w (.int .i64 t1) (.int .i64 l1) (.int .i64 t2) (.int .i64 l2)) (Sql [.val (.agg #[.int .i64 t1, .int .i64 l1]), .prat x, .val (.agg #[.int .i64 t2, .int .i64 l2]), .prat y, .val (.int .i64 q), .val (.int .i64 q), .val (.int .i64 0)]) (by kernel_rfl) (by kernel_rfl) (by kernel_rfl) (by kernel_rfl) (fun i j hi hj h => by have h : (if i = 5 then 4 else if i = 6 then 5 else 14 + i) = (if j = 5 then 4 else if j = 6 then 5 else 14 + j) := h; split at h <;> split at h <;> (try split at h) <;> (try split at h) <;> omega) (by decide) FN4.keep Sql.keep ?_ ?_ ?_
  · exact HX2.out.keep _ _ (Below.drew (Below.refl _ _))
  · intro i v wx o T' K ho hF hdep hin hout hK
    have hi : i < 7 := (Array.getElem?_eq_some_iff.1 ho).1
    have q14 := hin 14 (by decide)
    have q15 := hin 15 (by decide)
    have q16 := hin 16 (by decide)
    have q17 := hin 17 (by decide)
    have q18 := hin 18 (by decide)
    have q4 := hin 4 (by decide)
    have q5 := hin 5 (by decide)
    have sl2 : T'[2]? = some (.pointer (some ⟨w.heap.size, 0, none⟩)) := (hout 2 (by decide)).trans rfl
    have sl3 : T'[3]? = some (.pointer (some ⟨w.heap.size + 1, 0, none⟩)) := (hout 3 (by decide)).trans rfl
    clear hin hout
    have HF := Lib.hid hF
    have HD := Lib.hid hdep
    clear hF hdep
    rcases (by omega : i = 0 ∨ i = 1 ∨ i = 2 ∨ i = 3 ∨ i = 4 ∨ i = 5 ∨ i = 6) with rfl | rfl | rfl | rfl | rfl | rfl | rfl
    · obtain rfl := Option.some.inj ho
      obtain ⟨k0, k1, k2⟩ := HF.out.ba
      have hP := (rfl : Value.agg #[.int .i64 t1, .int .i64 l1] = .agg #[.int .i64 t1, .int .i64 l1])
      clear q14 q15 q16 q17 q18 q4 q5 sl3 ho hi
      go_simp
      exact hK _ _ (Below.refl _ _) hP
    · obtain rfl := Option.some.inj ho
      have e0 : v 14 = (.agg #[.int .i64 t1, .int .i64 l1]) := HD.out ⟨0, .data⟩ (by simp) rfl
      rw [e0] at q14
      clear q15 q16 q17 q18 q4 q5 sl2 sl3 ho hi
      go_simp
      (with_reducible refine (HO1.out _).mono ?_)
      rintro e w2 ⟨u, rfl, hu, hB⟩
      exact hK _ _ hB hu
    · obtain rfl := Option.some.inj ho
      obtain ⟨k0, k1, k2⟩ := HF.out.bb
      have hP := (rfl : Value.agg #[.int .i64 t2, .int .i64 l2] = .agg #[.int .i64 t2, .int .i64 l2])
      clear q14 q15 q16 q17 q18 q4 q5 sl2 ho hi
      go_simp
      exact hK _ _ (Below.refl _ _) hP
    · obtain rfl := Option.some.inj ho
      have e0 : v 16 = (.agg #[.int .i64 t2, .int .i64 l2]) := HD.out ⟨2, .data⟩ (by simp) rfl
      rw [e0] at q16
      clear q14 q15 q17 q18 q4 q5 sl2 sl3 ho hi
      go_simp
      (with_reducible refine (HO2.out _).mono ?_)
      rintro e w2 ⟨u, rfl, hu, hB⟩
      exact hK _ _ hB hu
    · obtain rfl := Option.some.inj ho
      have h0 : QV wx (v 15) x := HD.out ⟨1, .data⟩ (by simp) rfl
      have h1 : QV wx (v 17) y := HD.out ⟨3, .data⟩ (by simp) rfl
      clear q14 q16 q18 q4 q5 sl2 sl3 ho hi
      go_simp
      (with_reducible refine (HC.out _ _ _ h0 h1).mono ?_)
      rintro e w2 ⟨u, rfl, hu, hB⟩
      exact hK _ _ hB hu
    · obtain rfl := Option.some.inj ho
      have e0 : v 18 = (.int .i64 q) := HD.out ⟨4, .data⟩ (by simp) rfl
      rw [e0] at q18
      clear q14 q15 q16 q17 q4 q5 sl2 sl3 ho hi
      go_simp
      exact hK _ _ (Below.refl _ _) rfl
    · obtain rfl := Option.some.inj ho
      clear q14 q15 q16 q17 q18 q4 q5 sl2 sl3 ho hi
      go_simp
      exact hK _ _ (Below.refl _ _) rfl
  · intro v wx hF hall
    have h4 : v 4 = .int .i64 q := hall 5 (by decide)
    have h5 : v 5 = .int .i64 0 := hall 6 (by decide)
    have HB := Lib.hid hF.below
    clear hF hall
    simp only [over, List.setIfInBounds_toArray, List.set_cons_zero, List.set_cons_succ]
    rw [h4, h5]
    generalize v 14 = v14
    generalize v 15 = v15
    generalize v 16 = v16
    generalize v 17 = v17
    generalize v 18 = v18
    go_wp2_with fail
    exact bodyPost_ret (v := .tuple #[.int .i64 q, .int .i64 0]) (by simp [results, Try.results40, go_sem]) rfl ⟨rfl, HB.out⟩

/-- What num.Cmp returns. -/
def cmpT (t1 l1 t2 l2 : Int) : Int × Int := if vld t1 l1 && vld t2 l2 then (sgnR (fr t1 l1) (fr t2 l2), 0) else (0, 1)
theorem ncmp_any (t1 l1 t2 l2 : Int) (w : World) : Calls Try.prog 40 #[.agg #[.int .i64 t1, .int .i64 l1], .agg #[.int .i64 t2, .int .i64 l2]] w fun e w' => e = .returned (.tuple #[.int .i64 (cmpT t1 l1 t2 l2).1, .int .i64 (cmpT t1 l1 t2 l2).2]) ∧ Below w.heap.size w w' := by
  have hv1 := fun wx => valid_any t1 l1 wx
  have hv2 := fun wx => valid_any t2 l2 wx
  cases h1 : vld t1 l1 with
  | false =>
    have e : cmpT t1 l1 t2 l2 = (0, 1) := by unfold cmpT; rw [h1]; rfl
    rw [h1] at hv1
    rw [e]
    exact ncmp_bad1 t1 l1 t2 l2 w (Lib.hid hv1)
  | true =>
    rw [h1] at hv1
    cases h2 : vld t2 l2 with
    | false =>
      have e : cmpT t1 l1 t2 l2 = (0, 1) := by unfold cmpT; rw [h1, h2]; rfl
      rw [h2] at hv2
      rw [e]
      exact ncmp_bad2 t1 l1 t2 l2 w (Lib.hid hv1) (Lib.hid hv2)
    | true =>
      rw [h2] at hv2
      have e : cmpT t1 l1 t2 l2 = (sgnR (fr t1 l1) (fr t2 l2), 0) := by unfold cmpT; rw [h1, h2]; rfl
      rw [e]
      obtain ⟨x, rfl, rfl, hx⟩ := vld_rat h1
      obtain ⟨y, rfl, rfl, hy⟩ := vld_rat h2
      rw [hx, hy]
      obtain ⟨a1, a2⟩ := vld_le h1
      obtain ⟨b1, b2⟩ := vld_le h2
      have e3 : W ^ 3 = 79228162514264337593543950336 := by rw [W_eq]
      exact ncmp_ok _ _ _ _ _ x y w (Lib.hid hv1) (Lib.hid hv2) (Lib.hid fun wx => qv_of x wx (by omega) (by omega) (by omega)) (Lib.hid fun wx => qv_of y wx (by omega) (by omega) (by omega))
        (Lib.hid fun wx u u' k1 k2 => qv_cmp k1 k2 ⟨by omega, by omega⟩ ⟨by omega, by omega⟩)

end Go.Proofs.Ytjoanclnaeephaa

namespace Go.Proofs.Ytjoanclnaeephaa
open Go Go.RowKit

section
variable {P : Program} {ops : Array Oper} {Q : Exit → Act → World → Prop}

/-- Every operation but the last two makes a value; the last but one stores, the last one lays a constant into slot s2. -/
theorem wp_region_flow_put {id : Nat} {T : Array Value} {df : List Deferred} {w : World} (n : Nat) (s2 : Nat) (c2 : Value) (S : List Nat) (d : Nat → Nat) (Fix End : World → Prop) (Mid : (Nat → Value) → World → Prop) (G : Nat → Value → World → Prop)
    (hm : P.follows .mixedOrders = true) (hf : forward .any ops = true) (hS : S.all (fun j => decide (j < T.size)) = true) (hn : ops.size = n + 2)
    (hw : ((List.range n).all fun i => (waited ops n).contains i) = true) (hw2 : (waited.onOf ops (n + 1)).contains n = true)
    (hs2 : s2 ∈ S) (hd : ∀ i j, i < n → j < n → d i = d j → i = j) (hdS : ∀ i, i < n → d i ∈ S)
    (hkeep : ∀ wx wy, Fix wx → Below wx.heap.size wx wy → Fix wy) (hG : ∀ i u wx wy, Below wx.heap.size wx wy → G i u wx → G i u wy)
    (h0 : Fix w.drew)
    (hstep : ∀ (i : Nat) (v : Nat → Value) (wx : World) (o : Oper) (T' : Array Value) (K : Act → World → Prop), i < n → ops[i]? = some o → Fix wx → (∀ e ∈ o.after, Region.binds .any e = true → G e.on (v (d e.on)) wx) →
      (∀ j, j ∈ S → T'[j]? = some (v j)) → (∀ j, j ∉ S → T'[j]? = T[j]?) →
      (∀ x w', Below wx.heap.size wx w' → G i x w' → K ⟨T'.setIfInBounds (d i) x, df⟩ w') →
      if Region.wanted o (yielded ops T') = true then Oper.wp P o ⟨T', df⟩ wx K Q else K (Act.put ⟨T', df⟩ o.dst undef) wx)
    (hstore1 : ∀ (v : Nat → Value) (wx : World) (o : Oper) (T' : Array Value) (K : Act → World → Prop), ops[n]? = some o → Fix wx → (∀ i, i < n → G i (v (d i)) wx) →
      (∀ j, j ∈ S → T'[j]? = some (v j)) → (∀ j, j ∉ S → T'[j]? = T[j]?) → (∀ w', Mid v w' → K ⟨T', df⟩ w') →
      if Region.wanted o (yielded ops T') = true then Oper.wp P o ⟨T', df⟩ wx K Q else K (Act.put ⟨T', df⟩ o.dst undef) wx)
    (hstore2 : ∀ (v : Nat → Value) (wx : World) (o : Oper) (T' : Array Value) (K : Act → World → Prop), ops[n + 1]? = some o → Mid v wx →
      (∀ j, j ∈ S → T'[j]? = some (v j)) → (∀ j, j ∉ S → T'[j]? = T[j]?) → (∀ w', End w' → K ⟨T'.setIfInBounds s2 c2, df⟩ w') →
      if Region.wanted o (yielded ops T') = true then Oper.wp P o ⟨T', df⟩ wx K Q else K (Act.put ⟨T', df⟩ o.dst undef) wx)
    (hend : ∀ (v : Nat → Value) (wx : World), v s2 = c2 → End wx → Q .normal ⟨over T S v, df⟩ wx) :
    (Code.region id ops true).wp P Q ⟨T, df⟩ w := by
  refine wp_region_inv3 S (fun b v wx => (∀ j o, ops[j]? = some o → b j = true → ∀ e ∈ o.after, Region.binds .any e = true → b e.on = true) ∧ (b n = false → b (n + 1) = false ∧ Fix wx ∧ ∀ i, i < n → b i = true → G i (v (d i)) wx) ∧
    (b n = true → (∀ i, i < n → b i = true) ∧ (b (n + 1) = false → Mid v wx) ∧ (b (n + 1) = true → v s2 = c2 ∧ End wx))) hm hf hS ⟨fun _ _ _ h => Bool.noConfusion h, fun _ => ⟨rfl, h0, fun _ _ h => Bool.noConfusion h⟩, fun h => Bool.noConfusion h⟩ ?_ ?_
  · rintro i b v wx o T' K ho hdep hb ⟨hc, h1, h2⟩ hin hout hK hK'
    have hi : i < n + 2 := by rw [← hn]; exact (Array.getElem?_eq_some_iff.1 ho).1
    have hon : ∀ j o, ops[j]? = some o → ∀ e ∈ o.after, Region.binds .any e = true → e.on < j := fun j o ho e he hbd => by
      have hj : j < ops.size := (Array.getElem?_eq_some_iff.1 ho).1
      have h := List.all_eq_true.1 hf j (List.mem_range.2 hj)
      simp only [ho, Option.map_some, Option.getD_some] at h
      have h2 := (Array.all_eq_true_iff_forall_mem.1 h) e he
      simpa [hbd] using h2
    have hc' : ∀ j o, ops[j]? = some o → updB b i j = true → ∀ e ∈ o.after, Region.binds .any e = true → updB b i e.on = true := fun j o' ho' hj e he hbd => by
      have keep : ∀ k, b k = true → updB b i k = true := fun k hk => by
        unfold updB
        split
        · rfl
        · exact hk
      by_cases e1 : j = i
      · subst e1
        rw [ho] at ho'
        injection ho' with ho'
        subst ho'
        exact keep _ (hdep e he hbd)
      · unfold updB at hj
        rw [if_neg e1] at hj
        exact keep _ (hc j o' ho' hj e he hbd)
    have hbi : ∀ j, j ≠ i → updB b i j = b j := fun j hj => by unfold updB; rw [if_neg hj]
    have hbs : updB b i i = true := by unfold updB; rw [if_pos rfl]
    by_cases hl : i < n
    · have hbn : b n = false := by
        cases hbn : b n with
        | false => rfl
        | true => exact absurd ((h2 hbn).1 i hl) (by rw [hb]; decide)
      obtain ⟨hb1, hF, hall⟩ := h1 hbn
      refine hstep i v wx o T' K hl ho hF (fun e he hbd => hall _ (Nat.lt_trans (hon i o ho e he hbd) hl) (hdep e he hbd)) hin hout (fun x w' hB hx => hK _ _ _ (hdS i hl) ⟨hc', fun _ => ⟨by rw [hbi _ (by omega)]; exact hb1, hkeep _ _ hF hB, fun j hj hbj => ?_⟩, fun h => ?_⟩)
      · by_cases e : j = i
        · subst e
          have e2 : updV v (d j) x (d j) = x := by unfold updV; rw [if_pos rfl]
          rw [e2]
          exact hx
        · rw [updV_other hd hl hj e]
          rw [hbi _ e] at hbj
          exact hG _ _ _ _ hB (hall j hj hbj)
      · rw [hbi _ (by omega), hbn] at h
        exact Bool.noConfusion h
    · by_cases hl2 : i = n
      · subst hl2
        obtain ⟨hb1, hF, hall⟩ := h1 hb
        have hdone : ∀ j, j < i → b j = true := fun j hj => waited_done ho hdep hc j (by simpa using List.all_eq_true.1 hw j (List.mem_range.2 hj))
        refine hstore1 v wx o T' K ho hF (fun j hj => hall j hj (hdone j hj)) hin hout (fun w' hM => hK' _ ⟨hc', fun h => ?_, fun _ => ⟨fun j hj => by rw [hbi _ (by omega)]; exact hdone j hj, fun _ => hM, fun h => ?_⟩⟩)
        · rw [hbs] at h
          exact Bool.noConfusion h
        · rw [hbi _ (by omega), hb1] at h
          exact Bool.noConfusion h
      · have hi2 : i = n + 1 := by omega
        subst hi2
        have hbn : b n = true := by
          obtain ⟨o', ho', e, he, hbd, hx⟩ := mem_onOf (show n ∈ waited.onOf ops (n + 1) by simpa using hw2)
          rw [ho] at ho'
          injection ho' with ho'
          subst ho'
          rw [← hx]
          exact hdep e he hbd
        obtain ⟨hall, hM, -⟩ := h2 hbn
        refine hstore2 v wx o T' K ho (hM hb) hin hout (fun w' hE => hK _ _ _ hs2 ⟨hc', fun h => ?_, fun _ => ⟨fun j hj => by rw [hbi _ (by omega)]; exact hall j hj, fun h => ?_, fun _ => ⟨by unfold updV; rw [if_pos rfl], hE⟩⟩⟩)
        · rw [hbi _ (by omega), hbn] at h
          exact Bool.noConfusion h
        · rw [hbs] at h
          exact Bool.noConfusion h
  · rintro b v wx hb ⟨-, -, h2⟩
    have := (h2 (hb n (by omega))).2.2 (hb (n + 1) (by omega))
    exact hend v wx this.1 this.2
end

end Go.Proofs.Ytjoanclnaeephaa

namespace Go.Proofs.Ytjoanclnaeephaa
open Go.RowKit

/-- The boxes of two numbers, and one for the result. -/
structure FB3 (w : World) (a b a' b' : Value) (wx : World) : Prop where
  below : Below w.heap.size w wx
  ba : B2n w.heap.size a b wx
  bb : B2n (w.heap.size + 1) a' b' wx
  wc : Wr (w.heap.size + 1 + 1) 23 wx
theorem FB3.keep {w : World} {a b a' b' : Value} (wx wy : World) (h : FB3 w a b a' b' wx) (hb : Below wx.heap.size wx wy) : FB3 w a b a' b' wy :=
  ⟨h.below.trans (hb.mono h.below.size), h.ba.keep hb, h.bb.keep hb, h.wc.keep hb⟩

set_option maxRecDepth 100000 in
set_option maxHeartbeats 20000000 in
theorem btw_err (t1 l1 t2 l2 : Int) (q er : Int) (w : World) (he : (er != 0) = true) (HC : Hid (∀ wx, Calls Try.prog 40 #[.agg #[.int .i64 t1, .int .i64 l1], .agg #[.int .i64 t2, .int .i64 l2]] wx fun e w' => e = .returned (.tuple #[.int .i64 q, .int .i64 er]) ∧ Below wx.heap.size wx w')) : Calls Try.prog 15 #[.agg #[.int .i64 t1, .int .i64 l1], .agg #[.int .i64 t2, .int .i64 l2]] w (Rt 0 0 er w) := by
  go_enter Try.func15, Try.ntmps15
  go_upto_region 1 with fail
  obtain ⟨X, hX, hwX, hba, hbb, hW⟩ := nboxes3 w (.int .i64 t1) (.int .i64 l1) (.int .i64 t2) (.int .i64 l2)
  rw [hX]
  have HX : Hid (FB3 w (.int .i64 t1) (.int .i64 l1) (.int .i64 t2) (.int .i64 l2) X) := ⟨hwX, hba, hbb, hW⟩
  clear hX hwX hba hbb hW
  obtain ⟨k0, k1, -⟩ := HX.out.ba
  obtain ⟨j0, j1, -⟩ := HX.out.bb
  go_wp2_with fail
  (with_reducible refine (HC.out _).mono ?_)
  rintro e w1 ⟨rfl, hB1⟩
  have HX1 := Lib.hid (HX.out.keep _ _ hB1)
  clear k0 k1 j0 j1 hB1 HX HC
  obtain ⟨k0, k1, -⟩ := HX1.out.ba
  obtain ⟨j0, j1, -⟩ := HX1.out.bb
  obtain ⟨⟨o1, o2, o3, o4⟩, o5, o6, -⟩ := HX1.out.wc
  go_wp2_with fail
  exact bodyPost_ret (v := .tuple #[.agg #[.int .i64 0, .int .i64 0], .int .i64 er]) (by simp [results, Try.results15, go_sem, o3, o4]) rfl ⟨rfl, (HX1.out.below.setCell (Nat.le_trans (Nat.le_succ _) (Nat.le_succ _)) _).setCell (Nat.le_trans (Nat.le_succ _) (Nat.le_succ _)) _⟩

set_option maxRecDepth 100000 in
set_option maxHeartbeats 20000000 in
theorem btw_range (t1 l1 t2 l2 : Int) (q : Int) (w : World) (hq : decide (0 < q) = true) (HC : Hid (∀ wx, Calls Try.prog 40 #[.agg #[.int .i64 t1, .int .i64 l1], .agg #[.int .i64 t2, .int .i64 l2]] wx fun e w' => e = .returned (.tuple #[.int .i64 q, .int .i64 0]) ∧ Below wx.heap.size wx w')) : Calls Try.prog 15 #[.agg #[.int .i64 t1, .int .i64 l1], .agg #[.int .i64 t2, .int .i64 l2]] w (Rt 0 0 6 w) := by
  go_enter Try.func15, Try.ntmps15
  go_upto_region 1 with fail
  obtain ⟨X, hX, hwX, hba, hbb, hW⟩ := nboxes3 w (.int .i64 t1) (.int .i64 l1) (.int .i64 t2) (.int .i64 l2)
  rw [hX]
  have HX : Hid (FB3 w (.int .i64 t1) (.int .i64 l1) (.int .i64 t2) (.int .i64 l2) X) := ⟨hwX, hba, hbb, hW⟩
  clear hX hwX hba hbb hW
  obtain ⟨k0, k1, -⟩ := HX.out.ba
  obtain ⟨j0, j1, -⟩ := HX.out.bb
  go_wp2_with fail
  (with_reducible refine (HC.out _).mono ?_)
  rintro e w1 ⟨rfl, hB1⟩
  have HX1 := Lib.hid (HX.out.keep _ _ hB1)
  clear k0 k1 j0 j1 hB1 HX HC
  obtain ⟨k0, k1, -⟩ := HX1.out.ba
  obtain ⟨j0, j1, -⟩ := HX1.out.bb
  obtain ⟨⟨o1, o2, o3, o4⟩, o5, o6, -⟩ := HX1.out.wc
  go_wp2_with fail
  exact bodyPost_ret (v := .tuple #[.agg #[.int .i64 0, .int .i64 0], .int .i64 6]) (by simp [results, Try.results15, go_sem, o3, o4]) rfl ⟨rfl, (HX1.out.below.setCell (Nat.le_trans (Nat.le_succ _) (Nat.le_succ _)) _).setCell (Nat.le_trans (Nat.le_succ _) (Nat.le_succ _)) _⟩

set_option maxRecDepth 100000 in
set_option maxHeartbeats 20000000 in
theorem btw_zero (t1 l1 t2 l2 : Int) (q : Int) (w : World) (hq : decide (0 < q) = false) (g1 : decide (0 < t1) = false) (g2 : decide (t2 < 0) = false) (HC : Hid (∀ wx, Calls Try.prog 40 #[.agg #[.int .i64 t1, .int .i64 l1], .agg #[.int .i64 t2, .int .i64 l2]] wx fun e w' => e = .returned (.tuple #[.int .i64 q, .int .i64 0]) ∧ Below wx.heap.size wx w')) : Calls Try.prog 15 #[.agg #[.int .i64 t1, .int .i64 l1], .agg #[.int .i64 t2, .int .i64 l2]] w (Rt 0 1 0 w) := by
  go_enter Try.func15, Try.ntmps15
  go_upto_region 1 with fail
  obtain ⟨X, hX, hwX, hba, hbb, hW⟩ := nboxes3 w (.int .i64 t1) (.int .i64 l1) (.int .i64 t2) (.int .i64 l2)
  rw [hX]
  have HX : Hid (FB3 w (.int .i64 t1) (.int .i64 l1) (.int .i64 t2) (.int .i64 l2) X) := ⟨hwX, hba, hbb, hW⟩
  clear hX hwX hba hbb hW
  obtain ⟨k0, k1, -⟩ := HX.out.ba
  obtain ⟨j0, j1, -⟩ := HX.out.bb
  go_wp2_with fail
  (with_reducible refine (HC.out _).mono ?_)
  rintro e w1 ⟨rfl, hB1⟩
  have HX1 := Lib.hid (HX.out.keep _ _ hB1)
  clear k0 k1 j0 j1 hB1 HX HC
  obtain ⟨k0, k1, -⟩ := HX1.out.ba
  obtain ⟨j0, j1, -⟩ := HX1.out.bb
  obtain ⟨⟨o1, o2, o3, o4⟩, o5, o6, -⟩ := HX1.out.wc
  go_wp2_with fail
  exact bodyPost_ret (v := .tuple #[.agg #[.int .i64 0, .int .i64 1], .int .i64 0]) (by simp [results, Try.results15, go_sem, o3, o4]) rfl ⟨rfl, (HX1.out.below.setCell (Nat.le_trans (Nat.le_succ _) (Nat.le_succ _)) _).setCell (Nat.le_trans (Nat.le_succ _) (Nat.le_succ _)) _⟩

set_option maxRecDepth 100000 in
set_option maxHeartbeats 20000000 in
theorem btw_pos (t1 l1 t2 l2 : Int) (q p r : Int) (w : World) (hq : decide (0 < q) = false) (g1 : decide (0 < t1) = true) (HC : Hid (∀ wx, Calls Try.prog 40 #[.agg #[.int .i64 t1, .int .i64 l1], .agg #[.int .i64 t2, .int .i64 l2]] wx fun e w' => e = .returned (.tuple #[.int .i64 q, .int .i64 0]) ∧ Below wx.heap.size wx w'))
    (HS : Hid (∀ wx, Calls Try.prog 41 #[.agg #[.int .i64 t1, .int .i64 l1], .agg #[.int .i64 t2, .int .i64 l2]] wx fun e w' => e = .returned (.agg #[.int .i64 p, .int .i64 r]) ∧ Below wx.heap.size wx w')) : Calls Try.prog 15 #[.agg #[.int .i64 t1, .int .i64 l1], .agg #[.int .i64 t2, .int .i64 l2]] w (Rt p r 0 w) := by
  go_enter Try.func15, Try.ntmps15
  go_upto_region 1 with fail
  obtain ⟨X, hX, hwX, hba, hbb, hW⟩ := nboxes3 w (.int .i64 t1) (.int .i64 l1) (.int .i64 t2) (.int .i64 l2)
  rw [hX]
  have HX : Hid (FB3 w (.int .i64 t1) (.int .i64 l1) (.int .i64 t2) (.int .i64 l2) X) := ⟨hwX, hba, hbb, hW⟩
  clear hX hwX hba hbb hW
  obtain ⟨k0, k1, -⟩ := HX.out.ba
  obtain ⟨j0, j1, -⟩ := HX.out.bb
  go_wp2_with fail
  (with_reducible refine (HC.out _).mono ?_)
  rintro e w1 ⟨rfl, hB1⟩
  have HX1 := Lib.hid (HX.out.keep _ _ hB1)
  clear k0 k1 j0 j1 hB1 HX HC
  obtain ⟨k0, k1, -⟩ := HX1.out.ba
  obtain ⟨j0, j1, -⟩ := HX1.out.bb
  obtain ⟨⟨o1, o2, o3, o4⟩, o5, o6, -⟩ := HX1.out.wc
  go_wp2_with fail
  (with_reducible refine (HS.out _).mono ?_)
  rintro e w2 ⟨rfl, hB2⟩
  have HX2 := Lib.hid (HX1.out.keep _ _ hB2)
  clear k0 k1 j0 j1 o3 o4 o5 o6 hB2 HX1
  obtain ⟨⟨u1, u2, u3, u4⟩, u5, u6, -⟩ := HX2.out.wc
  go_wp2_with fail
  exact bodyPost_ret (v := .tuple #[.agg #[.int .i64 p, .int .i64 r], .int .i64 0]) (by simp [results, Try.results15, go_sem, u3, u4]) rfl ⟨rfl, (HX2.out.below.setCell (Nat.le_trans (Nat.le_succ _) (Nat.le_succ _)) _).setCell (Nat.le_trans (Nat.le_succ _) (Nat.le_succ _)) _⟩

set_option maxRecDepth 100000 in
set_option maxHeartbeats 20000000 in
theorem btw_neg (t1 l1 t2 l2 : Int) (q n1 n2 s p r : Int) (w : World) (hq : decide (0 < q) = false) (g1 : decide (0 < t1) = false) (g2 : decide (t2 < 0) = true) (HC : Hid (∀ wx, Calls Try.prog 40 #[.agg #[.int .i64 t1, .int .i64 l1], .agg #[.int .i64 t2, .int .i64 l2]] wx fun e w' => e = .returned (.tuple #[.int .i64 q, .int .i64 0]) ∧ Below wx.heap.size wx w'))
    (HN1 : Hid (∀ wx, Calls Try.prog 42 #[.agg #[.int .i64 t2, .int .i64 l2]] wx (RetW (.val (.agg #[.int .i64 n2, .int .i64 l2])) wx))) (HN2 : Hid (∀ wx, Calls Try.prog 42 #[.agg #[.int .i64 t1, .int .i64 l1]] wx (RetW (.val (.agg #[.int .i64 n1, .int .i64 l1])) wx)))
    (HS : Hid (∀ wx, Calls Try.prog 41 #[.agg #[.int .i64 n2, .int .i64 l2], .agg #[.int .i64 n1, .int .i64 l1]] wx (RetW (.val (.agg #[.int .i64 s, .int .i64 r])) wx))) (HN3 : Hid (∀ wx, Calls Try.prog 42 #[.agg #[.int .i64 s, .int .i64 r]] wx (RetW (.val (.agg #[.int .i64 p, .int .i64 r])) wx))) : Calls Try.prog 15 #[.agg #[.int .i64 t1, .int .i64 l1], .agg #[.int .i64 t2, .int .i64 l2]] w (Rt p r 0 w) := by
  go_enter Try.func15, Try.ntmps15
  go_upto_region 1 with fail
  obtain ⟨X, hX, hwX, hba, hbb, hW⟩ := nboxes3 w (.int .i64 t1) (.int .i64 l1) (.int .i64 t2) (.int .i64 l2)
  rw [hX]
  have HX : Hid (FB3 w (.int .i64 t1) (.int .i64 l1) (.int .i64 t2) (.int .i64 l2) X) := ⟨hwX, hba, hbb, hW⟩
  clear hX hwX hba hbb hW
  obtain ⟨k0, k1, -⟩ := HX.out.ba
  obtain ⟨j0, j1, -⟩ := HX.out.bb
  go_wp2_with fail
  (with_reducible refine (HC.out _).mono ?_)
  rintro e w1 ⟨rfl, hB1⟩
  have HX1 := Lib.hid (HX.out.keep _ _ hB1)
  clear k0 k1 j0 j1 hB1 HX HC
  obtain ⟨k0, k1, -⟩ := HX1.out.ba
  obtain ⟨j0, j1, -⟩ := HX1.out.bb
  obtain ⟨⟨o1, o2, o3, o4⟩, o5, o6, -⟩ := HX1.out.wc
  go_upto_region 9 with fail
  clear k0 k1 j0 j1 o3 o4 o5 o6
  refine wp_region_flow_put 6 5 (.int .i64 0) [33, 34, 35, 36, 37, 38, 5] (fun i => 33 + i) (FB3 w (.int .i64 t1) (.int .i64 l1) (.int .i64 t2) (.int .i64 l2)) (fun wx => B2n (w.heap.size + 1 + 1) (.int .i64 p) (.int .i64 r) wx ∧ Below w.heap.size w wx) (fun _ wx => B2n (w.heap.size + 1 + 1) (.int .i64 p) (.int .i64 r) wx ∧ Below w.heap.size w wx) (Sql [.val (.agg #[.int .i64 t2, .int .i64 l2]), .val (.agg #[.int .i64 n2, .int .i64 l2]), .val (.agg #[.int .i64 t1, .int .i64 l1]), .val (.agg #[.int .i64 n1, .int .i64 l1]), .val (.agg #[.int .i64 s, .int .i64 r]), .val (.agg #[.int .i64 p, .int .i64 r])]) (by kernel_rfl) (by kernel_rfl) (by kernel_rfl) (by kernel_rfl) (by kernel_rfl) (by kernel_rfl) (by decide) (fun i j _ _ h => Nat.add_left_cancel (show 33 + i = 33 + j from h)) (by decide) FB3.keep Sql.keep ?_ ?_ ?_ ?_ ?_
  · exact HX1.out.keep _ _ (Below.drew (Below.refl _ _))
  · intro i v wx o T' K hi ho hF hdep hin hout hK
    have q33 := hin 33 (by decide)
    have q34 := hin 34 (by decide)
    have q35 := hin 35 (by decide)
    have q36 := hin 36 (by decide)
    have q37 := hin 37 (by decide)
    have q38 := hin 38 (by decide)
    have sl2 : T'[2]? = some (.pointer (some ⟨w.heap.size, 0, none⟩)) := (hout 2 (by decide)).trans rfl
    have sl3 : T'[3]? = some (.pointer (some ⟨w.heap.size + 1, 0, none⟩)) := (hout 3 (by decide)).trans rfl
    have sl4 : T'[4]? = some (.pointer (some ⟨w.heap.size + 1 + 1, 0, none⟩)) := (hout 4 (by decide)).trans rfl
    clear hin hout
    have HF := Lib.hid hF
    have HD := Lib.hid hdep
    clear hF hdep
    rcases (by omega : i = 0 ∨ i = 1 ∨ i = 2 ∨ i = 3 ∨ i = 4 ∨ i = 5) with rfl | rfl | rfl | rfl | rfl | rfl
    · obtain rfl := Option.some.inj ho
      obtain ⟨k0, k1, k2⟩ := HF.out.bb
      have hP := (rfl : Value.agg #[.int .i64 t2, .int .i64 l2] = .agg #[.int .i64 t2, .int .i64 l2])
      clear q33 q34 q35 q36 q37 q38 sl2 sl4 ho hi
      go_simp
      exact hK _ _ (Below.refl _ _) hP
    · obtain rfl := Option.some.inj ho
      have e0 : v 33 = (.agg #[.int .i64 t2, .int .i64 l2]) := HD.out ⟨0, .data⟩ (by simp) rfl
      rw [e0] at q33
      clear q34 q35 q36 q37 q38 sl2 sl3 sl4 ho hi
      go_simp
      (with_reducible refine (HN1.out _).mono ?_)
      rintro e w2 ⟨u, rfl, hu, hB⟩
      exact hK _ _ hB hu
    · obtain rfl := Option.some.inj ho
      obtain ⟨k0, k1, k2⟩ := HF.out.ba
      have hP := (rfl : Value.agg #[.int .i64 t1, .int .i64 l1] = .agg #[.int .i64 t1, .int .i64 l1])
      clear q33 q34 q35 q36 q37 q38 sl3 sl4 ho hi
      go_simp
      exact hK _ _ (Below.refl _ _) hP
    · obtain rfl := Option.some.inj ho
      have e0 : v 35 = (.agg #[.int .i64 t1, .int .i64 l1]) := HD.out ⟨2, .data⟩ (by simp) rfl
      rw [e0] at q35
      clear q33 q34 q36 q37 q38 sl2 sl3 sl4 ho hi
      go_simp
      (with_reducible refine (HN2.out _).mono ?_)
      rintro e w2 ⟨u, rfl, hu, hB⟩
      exact hK _ _ hB hu
    · obtain rfl := Option.some.inj ho
      have e0 : v 34 = (.agg #[.int .i64 n2, .int .i64 l2]) := HD.out ⟨1, .data⟩ (by simp) rfl
      rw [e0] at q34
      have e1 : v 36 = (.agg #[.int .i64 n1, .int .i64 l1]) := HD.out ⟨3, .data⟩ (by simp) rfl
      rw [e1] at q36
      clear q33 q35 q37 q38 sl2 sl3 sl4 ho hi
      go_simp
      (with_reducible refine (HS.out _).mono ?_)
      rintro e w2 ⟨u, rfl, hu, hB⟩
      exact hK _ _ hB hu
    · obtain rfl := Option.some.inj ho
      have e0 : v 37 = (.agg #[.int .i64 s, .int .i64 r]) := HD.out ⟨4, .data⟩ (by simp) rfl
      rw [e0] at q37
      clear q33 q34 q35 q36 q38 sl2 sl3 sl4 ho hi
      go_simp
      (with_reducible refine (HN3.out _).mono ?_)
      rintro e w2 ⟨u, rfl, hu, hB⟩
      exact hK _ _ hB hu
  · intro v wx o T' K ho hF hall hin hout hK
    obtain rfl := Option.some.inj ho
    have sl4 : T'[4]? = some (.pointer (some ⟨w.heap.size + 1 + 1, 0, none⟩)) := (hout 4 (by decide)).trans rfl
    have q38 := hin 38 (by decide)
    have h0 : v 38 = (.agg #[.int .i64 p, .int .i64 r]) := hall 5 (by decide)
    clear hin hout hall ho
    rw [h0] at q38
    have HR : Hid (B2n (w.heap.size + 1 + 1) (.int .i64 p) (.int .i64 r) (st2 wx (w.heap.size + 1 + 1) (.int .i64 p) (.int .i64 r)) ∧ Below w.heap.size w (st2 wx (w.heap.size + 1 + 1) (.int .i64 p) (.int .i64 r))) := ⟨(hF.wc.put _ _).1, st2_below hF.below (Nat.le_trans (Nat.le_succ _) (Nat.le_succ _)) _ _⟩
    obtain ⟨⟨o1, o2, o3, o4⟩, o5, o6, -⟩ := hF.wc
    clear h0 hF
    go_simp
    exact hK _ HR.out
  · intro v wx o T' K ho hM hin hout hK
    obtain rfl := Option.some.inj ho
    clear hin hout ho
    go_simp
    exact hK _ hM
  · intro v wx hV hE
    obtain ⟨⟨k0, k1, -⟩, hB⟩ := hE
    have HB := Lib.hid hB
    clear hB
    simp only [over, List.setIfInBounds_toArray, List.set_cons_zero, List.set_cons_succ]
    rw [hV]
    generalize v 33 = v33
    generalize v 34 = v34
    generalize v 35 = v35
    generalize v 36 = v36
    generalize v 37 = v37
    generalize v 38 = v38
    go_wp2_with fail
    exact bodyPost_ret (v := .tuple #[.agg #[.int .i64 p, .int .i64 r], .int .i64 0]) (by simp [results, Try.results15, go_sem, k0, k1]) rfl ⟨rfl, HB.out⟩

end Go.Proofs.Ytjoanclnaeephaa

namespace Go.Proofs.Ytjoanclnaeephaa
open Go.RowKit

/-- What num.Between returns. -/
def btwT (t1 l1 t2 l2 : Int) : Int × Int × Int :=
  if vld t1 l1 && vld t2 l2 then
    if t2 * l1 < t1 * l2 then (0, 0, 6)
    else if 0 < t1 then ((simpN (l1.toNat + l2.toNat) t1.toNat l1.toNat t2.toNat l2.toNat).1, (simpN (l1.toNat + l2.toNat) t1.toNat l1.toNat t2.toNat l2.toNat).2, 0)
    else if t2 < 0 then (-((simpN (l2.toNat + l1.toNat) (-t2).toNat l2.toNat (-t1).toNat l1.toNat).1 : Int), (simpN (l2.toNat + l1.toNat) (-t2).toNat l2.toNat (-t1).toNat l1.toNat).2, 0)
    else (0, 1, 0)
  else (0, 0, 1)

theorem vld_open {t l : Int} (h : vld t l = true) : 1 ≤ l ∧ l ≤ 1152921504606846976 ∧ -1152921504606846976 ≤ t ∧ t ≤ 1152921504606846976 ∧ Nat.gcd t.natAbs l.toNat = 1 := by
  simp [vld] at h
  exact ⟨by omega, by omega, by omega, by omega, h.2⟩
theorem vld_mk {t l : Int} (h1 : 1 ≤ l) (h2 : l ≤ 1152921504606846976) (h3 : -1152921504606846976 ≤ t) (h4 : t ≤ 1152921504606846976) (h5 : Nat.gcd t.natAbs l.toNat = 1) : vld t l = true := by
  simp [vld]
  exact ⟨⟨⟨⟨by omega, by omega⟩, by omega⟩, by omega⟩, h5⟩
theorem sgnI_pos (z : Int) : decide (0 < sgnI z) = decide (0 < z) := by
  unfold sgnI
  rcases Int.lt_trichotomy z 0 with h | h | h
  · rw [if_pos h, decide_eq_false (show ¬ (0 < z) by omega)]; rfl
  · rw [if_neg (by omega), if_pos h, decide_eq_false (show ¬ (0 < z) by omega)]; rfl
  · rw [if_neg (by omega), if_neg (by omega), decide_eq_true h]; rfl

/-- A number from a to b such that no number from a to b has a lesser part. -/
structure LeastN (t1 l1 t2 l2 u d : Int) : Prop where
  vd : vld u d = true
  ge : t1 * d ≤ u * l1
  le : u * l2 ≤ t2 * d
  least : ∀ c e : Int, 0 < e → t1 * e ≤ c * l1 → c * l2 ≤ t2 * e → d ≤ e ∧ u.natAbs ≤ c.natAbs

theorem best_nat {a l b m k : Nat} (hk : l + m ≤ k) (ha : 0 < a) (hl : 0 < l) (hm : 0 < m) (hab : a * m ≤ b * l) (Ma : a ≤ 1152921504606846976) (Ml : l ≤ 1152921504606846976) :
    LeastN (a : Int) (l : Int) (b : Int) (m : Int) ((simpN k a l b m).1 : Int) ((simpN k a l b m).2 : Int) ∧ LeastN (-(b : Int)) (m : Int) (-(a : Int)) (l : Int) (-((simpN k a l b m).1 : Int)) ((simpN k a l b m).2 : Int) := by
  have B := simpN_best k a l b m hk ha hl hm hab
  obtain ⟨p, q, hpq⟩ : ∃ p q, simpN k a l b m = (p, q) := ⟨_, _, rfl⟩
  rw [hpq] at B ⊢
  obtain ⟨b1, b2, b3, b4, b5, b6⟩ := B
  have b1' : 0 < p := b1
  have b2' : 0 < q := b2
  have b3' : a * q ≤ p * l := b3
  have b4' : p * m ≤ b * q := b4
  have b5' : Nat.gcd p q = 1 := b5
  obtain ⟨s1, s2⟩ := b6 a l hl (Nat.le_refl _) hab
  have s1' : q ≤ l := s1
  have s2' : p ≤ a := s2
  have i3 : (a : Int) * (q : Int) ≤ (p : Int) * (l : Int) := by exact_mod_cast b3'
  have i4 : (p : Int) * (m : Int) ≤ (b : Int) * (q : Int) := by exact_mod_cast b4'
  have key : ∀ c e : Int, 0 < e → (a : Int) * e ≤ c * (l : Int) → c * (m : Int) ≤ (b : Int) * e → (q : Int) ≤ e ∧ p ≤ c.natAbs := by
    intro c e he h1 h2
    have hc : 0 < c := by
      rcases (show 0 < c ∨ c ≤ 0 by omega) with h | h
      · exact h
      · have h3 : 0 < (a : Int) * e := Int.mul_pos (by omega) he
        have h4 : c * (l : Int) ≤ 0 := Int.mul_nonpos_of_nonpos_of_nonneg h (by omega)
        omega
    obtain ⟨c', rfl⟩ := Int.eq_ofNat_of_zero_le (show 0 ≤ c by omega)
    obtain ⟨e', rfl⟩ := Int.eq_ofNat_of_zero_le (show 0 ≤ e by omega)
    have k1 : a * e' ≤ c' * l := by exact_mod_cast h1
    have k2 : c' * m ≤ b * e' := by exact_mod_cast h2
    obtain ⟨f1, f2⟩ := b6 c' e' (by omega) k1 k2
    have f1' : q ≤ e' := f1
    have f2' : p ≤ c' := f2
    exact ⟨by omega, by rw [Int.natAbs_natCast]; exact f2'⟩
  constructor
  · refine ⟨vld_mk (by show (1 : Int) ≤ (q : Int); omega) (by show (q : Int) ≤ _; omega) (by show _ ≤ (p : Int); omega) (by show (p : Int) ≤ _; omega) (by show Nat.gcd ((p : Int)).natAbs ((q : Int)).toNat = 1; rw [Int.natAbs_natCast, Int.toNat_natCast]; exact b5'), i3, i4, fun c e he h1 h2 => ?_⟩
    obtain ⟨f1, f2⟩ := key c e he h1 h2
    exact ⟨f1, by show ((p : Int)).natAbs ≤ _; rw [Int.natAbs_natCast]; exact f2⟩
  · refine ⟨vld_mk (by show (1 : Int) ≤ (q : Int); omega) (by show (q : Int) ≤ _; omega) (by show _ ≤ -(p : Int); omega) (by show -(p : Int) ≤ _; omega) (by show Nat.gcd (-(p : Int)).natAbs ((q : Int)).toNat = 1; rw [Int.natAbs_neg, Int.natAbs_natCast, Int.toNat_natCast]; exact b5'), ?_, ?_, fun c e he h1 h2 => ?_⟩
    · show -(b : Int) * (q : Int) ≤ -(p : Int) * (m : Int)
      rw [Int.neg_mul, Int.neg_mul]
      omega
    · show -(p : Int) * (l : Int) ≤ -(a : Int) * (q : Int)
      rw [Int.neg_mul, Int.neg_mul]
      omega
    · rw [Int.neg_mul] at h1 h2
      obtain ⟨f1, f2⟩ := key (-c) e he (by rw [Int.neg_mul]; omega) (by rw [Int.neg_mul]; omega)
      exact ⟨f1, by show (-(p : Int)).natAbs ≤ _; rw [Int.natAbs_neg, Int.natAbs_natCast]; rw [Int.natAbs_neg] at f2; exact f2⟩

theorem btw_least (t1 l1 t2 l2 : Int) (h : (btwT t1 l1 t2 l2).2.2 = 0) : vld t1 l1 = true ∧ vld t2 l2 = true ∧ LeastN t1 l1 t2 l2 (btwT t1 l1 t2 l2).1 (btwT t1 l1 t2 l2).2.1 := by
  unfold btwT at h ⊢
  by_cases hv : (vld t1 l1 && vld t2 l2) = true
  · rw [if_pos hv] at h ⊢
    obtain ⟨v1, v2⟩ := Bool.and_eq_true_iff.1 hv
    refine ⟨v1, v2, ?_⟩
    obtain ⟨a1, a2, a3, a4, -⟩ := vld_open v1
    obtain ⟨c1, c2, c3, c4, -⟩ := vld_open v2
    by_cases hr : t2 * l1 < t1 * l2
    · rw [if_pos hr] at h
      cases h
    · rw [if_neg hr]
      obtain ⟨l, rfl⟩ := Int.eq_ofNat_of_zero_le (show 0 ≤ l1 by omega)
      obtain ⟨m, rfl⟩ := Int.eq_ofNat_of_zero_le (show 0 ≤ l2 by omega)
      by_cases hp : 0 < t1
      · rw [if_pos hp]
        obtain ⟨a, rfl⟩ := Int.eq_ofNat_of_zero_le (show 0 ≤ t1 by omega)
        have hb : 0 ≤ t2 := by
          rcases (show t2 < 0 ∨ 0 ≤ t2 by omega) with hb | hb
          · have h3 : 0 < (a : Int) * (m : Int) := Int.mul_pos hp (by omega)
            have h4 : t2 * (l : Int) ≤ 0 := Int.mul_nonpos_of_nonpos_of_nonneg (by omega) (by omega)
            omega
          · exact hb
        obtain ⟨b, rfl⟩ := Int.eq_ofNat_of_zero_le hb
        have hab : a * m ≤ b * l := by
          have : (a : Int) * (m : Int) ≤ (b : Int) * (l : Int) := by omega
          exact_mod_cast this
        simp only [Int.toNat_natCast]
        exact (best_nat (Nat.le_refl _) (by omega) (by omega) (by omega) hab (by omega) (by omega)).1
      · rw [if_neg hp]
        by_cases hn : t2 < 0
        · rw [if_pos hn]
          obtain ⟨a, ha⟩ := Int.eq_ofNat_of_zero_le (show 0 ≤ -t2 by omega)
          obtain ⟨b, hb⟩ := Int.eq_ofNat_of_zero_le (show 0 ≤ -t1 by omega)
          obtain rfl : t2 = -(a : Int) := by omega
          obtain rfl : t1 = -(b : Int) := by omega
          have hab : a * l ≤ b * m := by
            rw [Int.neg_mul, Int.neg_mul] at hr
            have : (a : Int) * (l : Int) ≤ (b : Int) * (m : Int) := by omega
            exact_mod_cast this
          simp only [Int.neg_neg, Int.toNat_natCast]
          exact (best_nat (Nat.le_refl _) (by omega) (by omega) (by omega) hab (by omega) (by omega)).2
        · rw [if_neg hn]
          refine ⟨by decide, ?_, ?_, fun c e he _ _ => ⟨by show (1 : Int) ≤ e; omega, Nat.zero_le _⟩⟩
          · show t1 * 1 ≤ 0 * _
            omega
          · show 0 * _ ≤ t2 * 1
            omega
  · rw [if_neg hv] at h
    cases h

theorem btw_any (t1 l1 t2 l2 : Int) (w : World) : Calls Try.prog 15 #[.agg #[.int .i64 t1, .int .i64 l1], .agg #[.int .i64 t2, .int .i64 l2]] w (Rt (btwT t1 l1 t2 l2).1 (btwT t1 l1 t2 l2).2.1 (btwT t1 l1 t2 l2).2.2 w) := by
  have HC := fun wx => ncmp_any t1 l1 t2 l2 wx
  by_cases hv : (vld t1 l1 && vld t2 l2) = true
  · have ec : cmpT t1 l1 t2 l2 = (sgnR (fr t1 l1) (fr t2 l2), 0) := if_pos hv
    rw [ec] at HC
    obtain ⟨v1, v2⟩ := Bool.and_eq_true_iff.1 hv
    have es : decide (0 < sgnR (fr t1 l1) (fr t2 l2)) = decide (t2 * l1 < t1 * l2) := by
      obtain ⟨x, rfl, rfl, hx⟩ := vld_rat v1
      obtain ⟨y, rfl, rfl, hy⟩ := vld_rat v2
      rw [hx, hy]
      unfold sgnR
      rw [sgnI_pos]
      refine decide_eq_decide.2 ⟨fun h => by omega, fun h => by omega⟩
    obtain ⟨a1, a2, a3, a4, -⟩ := vld_open v1
    obtain ⟨c1, c2, c3, c4, -⟩ := vld_open v2
    by_cases hr : t2 * l1 < t1 * l2
    · have e : btwT t1 l1 t2 l2 = (0, 0, 6) := by unfold btwT; rw [if_pos hv, if_pos hr]
      rw [e]
      rw [decide_eq_true hr] at es
      exact btw_range t1 l1 t2 l2 _ w es (Lib.hid HC)
    · rw [decide_eq_false hr] at es
      obtain ⟨l, rfl⟩ := Int.eq_ofNat_of_zero_le (show 0 ≤ l1 by omega)
      obtain ⟨m, rfl⟩ := Int.eq_ofNat_of_zero_le (show 0 ≤ l2 by omega)
      by_cases hp : 0 < t1
      · obtain ⟨a, rfl⟩ := Int.eq_ofNat_of_zero_le (show 0 ≤ t1 by omega)
        have hb : 0 ≤ t2 := by
          rcases (show t2 < 0 ∨ 0 ≤ t2 by omega) with hb | hb
          · have h3 : 0 < (a : Int) * (m : Int) := Int.mul_pos hp (by omega)
            have h4 : t2 * (l : Int) ≤ 0 := Int.mul_nonpos_of_nonpos_of_nonneg (by omega) (by omega)
            omega
          · exact hb
        obtain ⟨b, rfl⟩ := Int.eq_ofNat_of_zero_le hb
        have hab : a * m ≤ b * l := by
          have : (a : Int) * (m : Int) ≤ (b : Int) * (l : Int) := by omega
          exact_mod_cast this
        have e : btwT (a : Int) (l : Int) (b : Int) (m : Int) = (((simpN (l + m) a l b m).1 : Int), ((simpN (l + m) a l b m).2 : Int), 0) := by
          unfold btwT
          rw [if_pos hv, if_neg hr, if_pos hp]
          simp only [Int.toNat_natCast]
        rw [e]
        exact btw_pos _ _ _ _ _ _ _ w es (decide_eq_true hp) (Lib.hid HC) (Lib.hid fun wx => simplest_any (l + m) a l b m wx (Nat.le_refl _) (by omega) (by omega) (by omega) hab (by omega) (by omega) (by omega) (by omega))
      · by_cases hn : t2 < 0
        · obtain ⟨a, ha⟩ := Int.eq_ofNat_of_zero_le (show 0 ≤ -t2 by omega)
          obtain ⟨b, hb⟩ := Int.eq_ofNat_of_zero_le (show 0 ≤ -t1 by omega)
          obtain rfl : t2 = -(a : Int) := by omega
          obtain rfl : t1 = -(b : Int) := by omega
          have hab : a * l ≤ b * m := by
            rw [Int.neg_mul, Int.neg_mul] at hr
            have : (a : Int) * (l : Int) ≤ (b : Int) * (m : Int) := by omega
            exact_mod_cast this
          have B := best_nat (k := m + l) (Nat.le_refl _) (show 0 < a by omega) (show 0 < m by omega) (show 0 < l by omega) hab (by omega) (by omega)
          have hs := vld_open B.1.vd
          have e : btwT (-(b : Int)) (l : Int) (-(a : Int)) (m : Int) = (-((simpN (m + l) a m b l).1 : Int), ((simpN (m + l) a m b l).2 : Int), 0) := by
            unfold btwT
            rw [if_pos hv, if_neg hr, if_neg hp, if_pos hn]
            simp only [Int.neg_neg, Int.toNat_natCast]
          rw [e]
          have HN : ∀ (z d : Int), -1152921504606846976 ≤ z → z ≤ 1152921504606846976 → ∀ wx, Calls Try.prog 42 #[.agg #[.int .i64 z, .int .i64 d]] wx (RetW (.val (.agg #[.int .i64 (-z), .int .i64 d])) wx) := fun z d h1 h2 wx => by
            refine (negative_any z d (-z) wx (IntWalk.i64_in _ (by omega))).mono ?_
            rintro e w' ⟨rfl, hB⟩
            exact ⟨_, rfl, rfl, hB⟩
          have hs3 := hs.2.2.1
          have hs4 := hs.2.2.2.1
          have H1 := HN (-(a : Int)) (m : Int) c3 c4
          have H2 := HN (-(b : Int)) (l : Int) a3 a4
          rw [Int.neg_neg] at H1 H2
          exact btw_neg _ _ _ _ _ (b : Int) (a : Int) ((simpN (m + l) a m b l).1 : Int) _ _ w es (decide_eq_false hp) (decide_eq_true hn) (Lib.hid HC) (Lib.hid H1) (Lib.hid H2)
            (Lib.hid fun wx => (simplest_any (m + l) a m b l wx (Nat.le_refl _) (by omega) (by omega) (by omega) hab (by omega) (by omega) (by omega) (by omega)).mono (by rintro e w' ⟨rfl, hB⟩; exact ⟨_, rfl, rfl, hB⟩))
            (Lib.hid (HN _ _ hs3 hs4))
        · have e : btwT t1 (l : Int) t2 (m : Int) = (0, 1, 0) := by unfold btwT; rw [if_pos hv, if_neg hr, if_neg hp, if_neg hn]
          rw [e]
          exact btw_zero _ _ _ _ _ w es (decide_eq_false hp) (decide_eq_false hn) (Lib.hid HC)
  · have ec : cmpT t1 l1 t2 l2 = (0, 1) := if_neg hv
    have e : btwT t1 l1 t2 l2 = (0, 0, 1) := if_neg hv
    rw [ec] at HC
    rw [e]
    exact btw_err t1 l1 t2 l2 0 1 w rfl (Lib.hid HC)

end Go.Proofs.Ytjoanclnaeephaa
