/- num.Pow: products. -/
import Derived.Test.YtfhmhkbjcccejaaGreatDoorZ35
import Derived.Test.YtfhmhkbjcccejaaGreatDoorZ36

namespace Go.Proofs.YtfhmhkbjcccejaaGreatDoor
open Go.RowKit

theorem Wr.far {g k T : Nat} {w : World} (h : Wr g T w) (hk : g ≠ k) (o : Nat) (u : Value) : Wr g T (w.setCell ⟨k, o, none⟩ u) := by
  obtain ⟨⟨p, q, h1, h2⟩, f1, f2, hx⟩ := h
  have e : (w.setCell ⟨k, o, none⟩ u).heap[g]? = w.heap[g]? := Below.heap_setCell _ _ _ _ hk
  exact ⟨⟨p, q, (World.cell?_of_block (w := w) (a := ⟨g, 0, none⟩) e).trans h1, (World.cell?_of_block (w := w) (a := ⟨g, 1, none⟩) e).trans h2⟩,
    (World.frozen?_of_block (w := w) (a := ⟨g, 0, none⟩) e).trans f1, (World.frozen?_of_block (w := w) (a := ⟨g, 1, none⟩) e).trans f2, hx.set _ _ _⟩

/-- The loop's state. -/
def PowL (w : World) (base g6 g7 : Nat) (y x : Rat) (wr : World) : Prop :=
  Below w.heap.size w wr ∧ w.heap.size + 1 < base ∧ g6 ≠ g7 ∧ BV base wr (.pointer (some ⟨g6, 0, none⟩)) y ∧ BV base wr (.pointer (some ⟨g7, 0, none⟩)) x ∧ Wr (w.heap.size + 1) 23 wr
theorem ptr_inj {a b : Nat} (h : (Value.pointer (some ⟨a, 0, none⟩)) = .pointer (some ⟨b, 0, none⟩)) : a = b := by
  injection h with h
  injection h with h
  injection h
theorem BV.open_ {base g : Nat} {w : World} {x : Rat} (h : BV base w (.pointer (some ⟨g, 0, none⟩)) x) : base ≤ g ∧ Wr4 g 47 w ∧ ∃ A n c B m d, B4 g (.bool (decide (x.num < 0))) (.slice A n c) (.bool false) (.slice B m d) w ∧ D w (.slice A n c) x.num.natAbs ∧ D w (.slice B m d) x.den := by
  obtain ⟨g', a, b, c, d, e, h1, h2, h3, A, n, ca, B, m, cb, e2, h4, h5⟩ := h
  obtain rfl := ptr_inj e
  injection e2 with e2
  injection e2 with e2
  simp only [List.cons.injEq, and_true] at e2
  obtain ⟨rfl, rfl, rfl, rfl⟩ := e2
  exact ⟨h1, h2, A, n, ca, B, m, cb, h3, h4, h5⟩
theorem PowL.next {w wr w2 : World} {base g6 g7 : Nat} {y z x : Rat} (h : PowL w base g6 g7 y x wr) (hb : Below wr.heap.size wr w2) {A B : Option Addr} {n c m d : Nat} (h1 : D w2 (.slice A n c) z.num.natAbs) (h2 : D w2 (.slice B m d) z.den) :
    PowL w base g6 g7 z x (set4 w2 g6 (.bool (decide (z.num < 0))) (.slice A n c) (.bool false) (.slice B m d)) := by
  obtain ⟨k1, k2, k3, k4, k5, k6⟩ := h
  obtain ⟨j1, j2, -⟩ := k4.open_
  have hw := j2.keep hb
  have hg : w.heap.size + 1 ≠ g6 := by omega
  exact ⟨set4_below (below_trans_same k1 hb) (by omega) _ _ _ _, k2, k3, BV.made j1 hw ⟨A, n, c, B, m, d, rfl, h1, h2⟩, (k5.keep hb).set_4 hw (fun e => k3 (ptr_inj e).symm) _ _ _ _,
    ((((k6.keep hb).far hg _ _).far hg _ _).far hg _ _).far hg _ _⟩
theorem PowL.made {w w1 wx : World} {t l : Int} {y x : Rat} {b : Nat → Bool} {v : Nat → Value} {g6 g7 : Nat} (h : JP w1 t l y x b v wx) (hw : Below w.heap.size w w1) (hW : Wr (w.heap.size + 1) 23 w1) (hb : ∀ i, i < 8 → b i = true) (e6 : v 6 = .pointer (some ⟨g6, 0, none⟩)) (e7 : v 7 = .pointer (some ⟨g7, 0, none⟩)) :
    PowL w w1.heap.size g6 g7 y x wx := by
  refine ⟨hw.trans (h.below.mono hw.size), ?_, ?_, by rw [← e6]; exact h.f6 (hb 6 (by decide)), by rw [← e7]; exact h.f7 (hb 7 (by decide)), hW.keep h.below⟩
  · obtain ⟨_, _, _, cs, fr, hc⟩ := hW
    exact lt_of_heap hc
  · intro e
    exact h.f45 (hb 4 (by decide)) (hb 5 (by decide)) (by rw [e6, e7, e])
theorem JP.ptr {w1 wx : World} {t l : Int} {y x : Rat} {b : Nat → Bool} {v : Nat → Value} (h : JP w1 t l y x b v wx) (hb : ∀ i, i < 8 → b i = true) : ∃ g6 g7, v 6 = .pointer (some ⟨g6, 0, none⟩) ∧ v 7 = .pointer (some ⟨g7, 0, none⟩) := by
  obtain ⟨g6, e6, -⟩ := h.f4 (hb 4 (by decide))
  obtain ⟨g7, e7, -⟩ := h.f5 (hb 5 (by decide))
  exact ⟨g6, g7, e6, e7⟩

set_option maxRecDepth 100000 in
set_option maxHeartbeats 4000000 in
theorem pow_smallA (x : Rat) (f : Nat → Rat) (N : Nat) (w : World) (hf0 : f 0 = 1) (hfs : ∀ k, f (k + 1) = f k * x) (hlim : ∀ k, k ≤ 60 → (f k).num.natAbs < W ^ 1000 ∧ (f k).den < W ^ 1000)
    (h : vld x.num (x.den : Int) = true) (hN : N ≤ 60) (g0 : decide ((N : Int) < 0) = false) (g1 : decide (10000 < (N : Int)) = false) (g2 : ((x.den : Int) == 1) = false) (gN : decide (60 < (N : Int)) = false) :
    Calls Tryz.prog 10 #[.agg #[.int .i64 x.num, .int .i64 (x.den : Int)], .int .i64 (N : Int)] w fun e w' => e = .returned (outN (f N)) ∧ Below w.heap.size w w' := by
  have HV : Hid (∀ wx, Calls Tryz.prog 11 #[.agg #[.int .i64 x.num, .int .i64 (x.den : Int)]] wx fun e w' => e = .returned (.bool true) ∧ Below wx.heap.size wx w') := fun wx => by
    have := valid_any x.num (x.den : Int) wx
    rw [h] at this
    exact this
  have HO1 : Hid (∀ wx, Calls Tryz.prog 31 #[.agg #[.int .i64 1, .int .i64 1]] wx (RetR 1 wx)) := fun wx => of_any 1 wx (by decide) (by decide) (by decide)
  have HO2 : Hid (∀ wx, Calls Tryz.prog 31 #[.agg #[.int .i64 x.num, .int .i64 (x.den : Int)]] wx (RetR x wx)) := fun wx => of_any x wx (vld_num h).1 (vld_num h).2.1 (vld_num h).2.2
  have HM : Hid (∀ wx k A n c B m d A' n' c' B' m' d', k < N → D wx (.slice A n c) (f k).num.natAbs → D wx (.slice B m d) (f k).den → D wx (.slice A' n' c') x.num.natAbs → D wx (.slice B' m' d') x.den →
      Calls Tryz.prog 32 #[.agg #[.bool (decide ((f k).num < 0)), .slice A n c, .bool false, .slice B m d], .agg #[.bool (decide (x.num < 0)), .slice A' n' c', .bool false, .slice B' m' d']] wx (RetR (f (k + 1)) wx)) := fun wx k A n c B m d A' n' c' B' m' d' hk k1 k2 k3 k4 => by
    obtain ⟨a1, a2⟩ := vld_le h
    have e1 := k1.len (hlim k (by omega)).1
    have e2 := k2.len (hlim k (by omega)).2
    have e3 := len2 k3 a1
    have e4 := len2 k4 a2
    rw [hfs]
    exact mulR_any _ _ A B A' B' n c m d n' c' m' d' (f k) x wx ⟨rfl, k1, k2⟩ ⟨rfl, k3, k4⟩ (by omega) (by omega) (by omega) (by omega) (by omega) (by omega)
  obtain ⟨u1, u2, q, hout⟩ := outN_shape (f N)
  have HN : Hid (∀ wx A n c B m d, D wx (.slice A n c) (f N).num.natAbs → D wx (.slice B m d) (f N).den → Calls Tryz.prog 22 #[.agg #[.bool (decide ((f N).num < 0)), .slice A n c, .bool false, .slice B m d]] wx fun e w' => e = .returned (.tuple #[.agg #[.int .i64 u1, .int .i64 u2], .int .i64 q]) ∧ Below wx.heap.size wx w') := fun wx A n c B m d k1 k2 => by
    have e1 := k1.len (hlim N hN).1
    have e2 := k2.len (hlim N hN).2
    have := num_any (decide ((f N).num < 0)) A B n c m d (f N) wx ⟨rfl, k1, k2⟩ (by omega) (by omega)
    rw [hout] at this
    exact this
  rw [hout]
  have HF0 := Lib.hid hf0
  clear h hfs hlim hout hf0
  have HN60 := Lib.hid hN
  clear hN
  go_enter Tryz.func10, Tryz.ntmps10
  go_upto_region 1 with fail
  obtain ⟨X, hX, hwX, hz, k0, k1, hW⟩ := boxes2 w (.int .i64 x.num) (.int .i64 (x.den : Int)) (.int .i64 0) (.int .i64 0)
  rw [hX]
  clear hX
  have H0 : Hid (w.heap.size < X.heap.size) := (by omega : w.heap.size < X.heap.size)
  clear hz
  go_wp2_with fail
  (with_reducible refine (HV.out X).mono ?_)
  rintro e w1 ⟨rfl, hB1⟩
  have l0 := (hB1.cell (p := ⟨w.heap.size, 0, none⟩) H0.out).trans k0
  have l1 := (hB1.cell (p := ⟨w.heap.size, 1, none⟩) H0.out).trans k1
  have B1 := hwX.trans (hB1.mono hwX.size)
  have hW1 := hW.keep hB1
  have hlt : w.heap.size < w1.heap.size := Nat.lt_of_lt_of_le H0.out hB1.size
  clear k0 k1 hW H0 HV hB1 hwX
  go_upto_region 9 with fail
  have HB1 := Lib.hid B1
  have HW1 := Lib.hid hW1
  have L0 := Lib.hid l0
  have L1 := Lib.hid l1
  have HLT := Lib.hid hlt
  clear B1 hW1 l0 l1 hlt
  refine wp_region_inv3 [6, 7, 38, 39, 40, 41] (JP w1 x.num (x.den : Int) 1 x) (by kernel_rfl) (by kernel_rfl) (by kernel_rfl) ?_ ?_ ?_
  · exact JP.start
  · intro i b v wx o T' K ho hdep hb hJ hin hout hK hK'
    have hi : i < 8 := (Array.getElem?_eq_some_iff.1 ho).1
    have q38 := hin 38 (by decide)
    have q39 := hin 39 (by decide)
    have q40 := hin 40 (by decide)
    have q41 := hin 41 (by decide)
    have q6 := hin 6 (by decide)
    have q7 := hin 7 (by decide)
    have q2 : T'[2]? = some (.pointer (some ⟨w.heap.size, 0, none⟩)) := (hout 2 (by decide)).trans rfl
    have c0 := (hJ.below.cell (p := ⟨w.heap.size, 0, none⟩) HLT.out).trans L0.out
    have c1 := (hJ.below.cell (p := ⟨w.heap.size, 1, none⟩) HLT.out).trans L1.out
    clear hin hout
    have HJ := Lib.hid hJ
    have HD := Lib.hid hdep
    have HB := Lib.hid hb
    clear hJ hdep hb
    rcases (by omega : i = 0 ∨ i = 1 ∨ i = 2 ∨ i = 3 ∨ i = 4 ∨ i = 5 ∨ i = 6 ∨ i = 7) with rfl | rfl | rfl | rfl | rfl | rfl | rfl | rfl
    · obtain rfl := Option.some.inj ho
      clear ho hi c0 c1 q38 q39 q40 q41 q6 q7 q2
      go_simp
      exact hK 38 _ _ (by decide) HJ.out.put0
    · obtain rfl := Option.some.inj ho
      rw [HJ.out.f0 (HD.out ⟨0, .data⟩ (by simp) rfl)] at q38
      clear ho hi c0 c1 q39 q40 q41 q6 q7 q2
      go_simp
      (with_reducible refine (HO1.out _).mono ?_)
      rintro e w2 ⟨A, n, c, B, m, d, rfl, hD1, hD2, hB2⟩
      exact hK 39 _ _ (by decide) ((HJ.out.keep hB2).put1 ⟨A, n, c, B, m, d, rfl, hD1, hD2⟩)
    · obtain rfl := Option.some.inj ho
      clear ho hi q38 q39 q40 q41 q6 q7
      go_simp
      exact hK 40 _ _ (by decide) HJ.out.put2
    · obtain rfl := Option.some.inj ho
      rw [HJ.out.f2 (HD.out ⟨2, .data⟩ (by simp) rfl)] at q40
      clear ho hi c0 c1 q38 q39 q41 q6 q7 q2
      go_simp
      (with_reducible refine (HO2.out _).mono ?_)
      rintro e w2 ⟨A, n, c, B, m, d, rfl, hD1, hD2, hB2⟩
      exact hK 41 _ _ (by decide) ((HJ.out.keep hB2).put3 ⟨A, n, c, B, m, d, rfl, hD1, hD2⟩)
    · obtain rfl := Option.some.inj ho
      clear ho hi c0 c1 q38 q39 q40 q41 q6 q7 q2
      go_simp
      exact hK 6 _ _ (by decide) (HJ.out.put4 HB.out _ _ _ _)
    · obtain rfl := Option.some.inj ho
      clear ho hi c0 c1 q38 q39 q40 q41 q6 q7 q2
      go_simp
      exact hK 7 _ _ (by decide) (HJ.out.put5 HB.out _ _ _ _)
    · obtain rfl := Option.some.inj ho
      have d1 := HD.out ⟨1, .data⟩ (by simp) rfl
      have d4 := HD.out ⟨4, .data⟩ (by simp) rfl
      have d5 := HD.out ⟨5, .phase⟩ (by simp) rfl
      obtain ⟨g, eg, hg, hw⟩ := HJ.out.f4 d4
      obtain ⟨A, n, c, B, m, d, e39, -, -⟩ := HJ.out.f1 d1
      rw [eg] at q6
      rw [e39] at q39
      have HR := Lib.hid (HJ.out.put6 eg hg hw e39 d1 d4 d5)
      obtain ⟨⟨p1, p2, p3, p4, p5, p6, p7, p8⟩, r1, r2, r3, r4, r5⟩ := hw
      clear ho hi c0 c1 q38 q40 q41 q7 q2 eg e39 d1 d4 d5 hK
      go_simp
      exact hK' _ HR.out
    · obtain rfl := Option.some.inj ho
      have d3 := HD.out ⟨3, .data⟩ (by simp) rfl
      have d5 := HD.out ⟨5, .data⟩ (by simp) rfl
      have d4 := HD.out ⟨4, .phase⟩ (by simp) rfl
      obtain ⟨g, eg, hg, hw⟩ := HJ.out.f5 d5
      obtain ⟨A, n, c, B, m, d, e41, -, -⟩ := HJ.out.f3 d3
      rw [eg] at q7
      rw [e41] at q41
      have HR := Lib.hid (HJ.out.put7 eg hg hw e41 d3 d4 d5)
      obtain ⟨⟨p1, p2, p3, p4, p5, p6, p7, p8⟩, r1, r2, r3, r4, r5⟩ := hw
      clear ho hi c0 c1 q38 q39 q40 q6 q2 eg e41 d3 d4 d5 hK
      go_simp
      exact hK' _ HR.out
  · intro b v wx hall hJ
    have hall' : ∀ i, i < 8 → b i = true := hall
    obtain ⟨g6, g7, e6, e7⟩ := hJ.ptr hall'
    have HP := Lib.hid (PowL.made hJ HB1.out HW1.out hall' e6 e7)
    simp only [over, List.setIfInBounds_toArray, List.set_cons_zero, List.set_cons_succ, e6, e7]
    generalize v 38 = v38
    generalize v 39 = v39
    generalize v 40 = v40
    generalize v 41 = v41
    clear hall hall' hJ e6 e7 HO1 HO2 HB1 HW1 L0 L1 HLT
    generalize w1.heap.size = base at HP
    clear w1
    rw [← HF0.out] at HP
    clear HF0
    go_wp2_with fail
    go_loopw [43] (fun s wr => ∃ k : Nat, Hid (k ≤ N) ∧ s = .int .i64 (k : Int) ∧ PowL w base g6 g7 (f k) x wr) (fun s _ => N - (intOf s).toNat)
    case atStart => exact ⟨0, Nat.zero_le _, rfl, HP.out⟩
    case round =>
      obtain ⟨k, hk, rfl, hP⟩ := hrel
      obtain ⟨j1, j2, A, n, c, B, m, d, b4, D1, D2⟩ := hP.2.2.2.1.open_
      obtain ⟨i1, i2, A', n', c', B', m', d', b4', D1', D2'⟩ := hP.2.2.2.2.1.open_
      have HPk := Lib.hid hP
      have HDs := Lib.hid (And.intro D1 (And.intro D2 (And.intro D1' D2')))
      have HJ2 := Lib.hid j2
      clear hP D1 D2 D1' D2' HP i1 i2 j1 j2
      obtain ⟨a1, a2, a3, a4⟩ := b4
      obtain ⟨e1, e2, e3, e4⟩ := b4'
      by_cases hlt : k < N
      · have h60 : (k : Int) < 60 := by have := HN60.out; omega
        go_wp2_with fail
        (with_reducible refine (HM.out _ k A n c B m d A' n' c' B' m' d' hlt HDs.out.1 HDs.out.2.1 HDs.out.2.2.1 HDs.out.2.2.2).mono ?_)
        rintro e w2 ⟨A2, n2, c2, B2, m2, d2, rfl, hD1, hD2, hB2⟩
        have HQ := Lib.hid (HPk.out.next hB2 hD1 hD2)
        obtain ⟨⟨p1, p2, p3, p4, p5, p6, p7, p8⟩, r1, r2, r3, r4, r5⟩ := HJ2.out.keep hB2
        clear hB2 hD1 hD2 a1 a2 a3 a4 e1 e2 e3 e4
        go_wp2_with fail
        go_roundw
        case rel => exact ⟨k + 1, hlt, by go_num, HQ.out⟩
        case measure => simp [intOf]; omega
      · obtain rfl : k = N := by have := hk.out; omega
        go_wp2_with fail
        (with_reducible refine (HN.out _ A n c B m d HDs.out.1 HDs.out.2.1).mono ?_)
        rintro e w2 ⟨rfl, hB2⟩
        have B2 := below_trans_same HPk.out.1 hB2
        obtain ⟨⟨c1, c2, c3, c4⟩, c5, c6, c7⟩ := HPk.out.2.2.2.2.2.keep hB2
        clear hB2 a1 a2 a3 a4 e1 e2 e3 e4
        go_wp2_with fail
        exact bodyPost_ret (v := .tuple #[.agg #[.int .i64 u1, .int .i64 u2], .int .i64 q]) (by simp [results, Tryz.results10, go_sem, *]) rfl ⟨rfl, (B2.setCell (by show w.heap.size ≤ w.heap.size + 1; omega) _).setCell (by show w.heap.size ≤ w.heap.size + 1; omega) _⟩

set_option maxRecDepth 100000 in
set_option maxHeartbeats 4000000 in
theorem pow_smallB (x : Rat) (f : Nat → Rat) (N : Nat) (w : World) (hf0 : f 0 = 1) (hfs : ∀ k, f (k + 1) = f k * x) (hlim : ∀ k, k ≤ 60 → (f k).num.natAbs < W ^ 1000 ∧ (f k).den < W ^ 1000)
    (h : vld x.num (x.den : Int) = true) (hN : N ≤ 60) (g0 : decide ((N : Int) < 0) = false) (g1 : decide (10000 < (N : Int)) = false) (g2 : ((x.den : Int) == 1) = true) (g3 : decide (-1 ≤ x.num) = false) (gN : decide (60 < (N : Int)) = false) :
    Calls Tryz.prog 10 #[.agg #[.int .i64 x.num, .int .i64 (x.den : Int)], .int .i64 (N : Int)] w fun e w' => e = .returned (outN (f N)) ∧ Below w.heap.size w w' := by
  have HV : Hid (∀ wx, Calls Tryz.prog 11 #[.agg #[.int .i64 x.num, .int .i64 (x.den : Int)]] wx fun e w' => e = .returned (.bool true) ∧ Below wx.heap.size wx w') := fun wx => by
    have := valid_any x.num (x.den : Int) wx
    rw [h] at this
    exact this
  have HO1 : Hid (∀ wx, Calls Tryz.prog 31 #[.agg #[.int .i64 1, .int .i64 1]] wx (RetR 1 wx)) := fun wx => of_any 1 wx (by decide) (by decide) (by decide)
  have HO2 : Hid (∀ wx, Calls Tryz.prog 31 #[.agg #[.int .i64 x.num, .int .i64 (x.den : Int)]] wx (RetR x wx)) := fun wx => of_any x wx (vld_num h).1 (vld_num h).2.1 (vld_num h).2.2
  have HM : Hid (∀ wx k A n c B m d A' n' c' B' m' d', k < N → D wx (.slice A n c) (f k).num.natAbs → D wx (.slice B m d) (f k).den → D wx (.slice A' n' c') x.num.natAbs → D wx (.slice B' m' d') x.den →
      Calls Tryz.prog 32 #[.agg #[.bool (decide ((f k).num < 0)), .slice A n c, .bool false, .slice B m d], .agg #[.bool (decide (x.num < 0)), .slice A' n' c', .bool false, .slice B' m' d']] wx (RetR (f (k + 1)) wx)) := fun wx k A n c B m d A' n' c' B' m' d' hk k1 k2 k3 k4 => by
    obtain ⟨a1, a2⟩ := vld_le h
    have e1 := k1.len (hlim k (by omega)).1
    have e2 := k2.len (hlim k (by omega)).2
    have e3 := len2 k3 a1
    have e4 := len2 k4 a2
    rw [hfs]
    exact mulR_any _ _ A B A' B' n c m d n' c' m' d' (f k) x wx ⟨rfl, k1, k2⟩ ⟨rfl, k3, k4⟩ (by omega) (by omega) (by omega) (by omega) (by omega) (by omega)
  obtain ⟨u1, u2, q, hout⟩ := outN_shape (f N)
  have HN : Hid (∀ wx A n c B m d, D wx (.slice A n c) (f N).num.natAbs → D wx (.slice B m d) (f N).den → Calls Tryz.prog 22 #[.agg #[.bool (decide ((f N).num < 0)), .slice A n c, .bool false, .slice B m d]] wx fun e w' => e = .returned (.tuple #[.agg #[.int .i64 u1, .int .i64 u2], .int .i64 q]) ∧ Below wx.heap.size wx w') := fun wx A n c B m d k1 k2 => by
    have e1 := k1.len (hlim N hN).1
    have e2 := k2.len (hlim N hN).2
    have := num_any (decide ((f N).num < 0)) A B n c m d (f N) wx ⟨rfl, k1, k2⟩ (by omega) (by omega)
    rw [hout] at this
    exact this
  rw [hout]
  have HF0 := Lib.hid hf0
  clear h hfs hlim hout hf0
  have HN60 := Lib.hid hN
  clear hN
  go_enter Tryz.func10, Tryz.ntmps10
  go_upto_region 1 with fail
  obtain ⟨X, hX, hwX, hz, k0, k1, hW⟩ := boxes2 w (.int .i64 x.num) (.int .i64 (x.den : Int)) (.int .i64 0) (.int .i64 0)
  rw [hX]
  clear hX
  have H0 : Hid (w.heap.size < X.heap.size) := (by omega : w.heap.size < X.heap.size)
  clear hz
  go_wp2_with fail
  (with_reducible refine (HV.out X).mono ?_)
  rintro e w1 ⟨rfl, hB1⟩
  have l0 := (hB1.cell (p := ⟨w.heap.size, 0, none⟩) H0.out).trans k0
  have l1 := (hB1.cell (p := ⟨w.heap.size, 1, none⟩) H0.out).trans k1
  have B1 := hwX.trans (hB1.mono hwX.size)
  have hW1 := hW.keep hB1
  have hlt : w.heap.size < w1.heap.size := Nat.lt_of_lt_of_le H0.out hB1.size
  clear k0 k1 hW H0 HV hB1 hwX
  go_upto_region 9 with fail
  have HB1 := Lib.hid B1
  have HW1 := Lib.hid hW1
  have L0 := Lib.hid l0
  have L1 := Lib.hid l1
  have HLT := Lib.hid hlt
  clear B1 hW1 l0 l1 hlt
  refine wp_region_inv3 [6, 7, 38, 39, 40, 41] (JP w1 x.num (x.den : Int) 1 x) (by kernel_rfl) (by kernel_rfl) (by kernel_rfl) ?_ ?_ ?_
  · exact JP.start
  · intro i b v wx o T' K ho hdep hb hJ hin hout hK hK'
    have hi : i < 8 := (Array.getElem?_eq_some_iff.1 ho).1
    have q38 := hin 38 (by decide)
    have q39 := hin 39 (by decide)
    have q40 := hin 40 (by decide)
    have q41 := hin 41 (by decide)
    have q6 := hin 6 (by decide)
    have q7 := hin 7 (by decide)
    have q2 : T'[2]? = some (.pointer (some ⟨w.heap.size, 0, none⟩)) := (hout 2 (by decide)).trans rfl
    have c0 := (hJ.below.cell (p := ⟨w.heap.size, 0, none⟩) HLT.out).trans L0.out
    have c1 := (hJ.below.cell (p := ⟨w.heap.size, 1, none⟩) HLT.out).trans L1.out
    clear hin hout
    have HJ := Lib.hid hJ
    have HD := Lib.hid hdep
    have HB := Lib.hid hb
    clear hJ hdep hb
    rcases (by omega : i = 0 ∨ i = 1 ∨ i = 2 ∨ i = 3 ∨ i = 4 ∨ i = 5 ∨ i = 6 ∨ i = 7) with rfl | rfl | rfl | rfl | rfl | rfl | rfl | rfl
    · obtain rfl := Option.some.inj ho
      clear ho hi c0 c1 q38 q39 q40 q41 q6 q7 q2
      go_simp
      exact hK 38 _ _ (by decide) HJ.out.put0
    · obtain rfl := Option.some.inj ho
      rw [HJ.out.f0 (HD.out ⟨0, .data⟩ (by simp) rfl)] at q38
      clear ho hi c0 c1 q39 q40 q41 q6 q7 q2
      go_simp
      (with_reducible refine (HO1.out _).mono ?_)
      rintro e w2 ⟨A, n, c, B, m, d, rfl, hD1, hD2, hB2⟩
      exact hK 39 _ _ (by decide) ((HJ.out.keep hB2).put1 ⟨A, n, c, B, m, d, rfl, hD1, hD2⟩)
    · obtain rfl := Option.some.inj ho
      clear ho hi q38 q39 q40 q41 q6 q7
      go_simp
      exact hK 40 _ _ (by decide) HJ.out.put2
    · obtain rfl := Option.some.inj ho
      rw [HJ.out.f2 (HD.out ⟨2, .data⟩ (by simp) rfl)] at q40
      clear ho hi c0 c1 q38 q39 q41 q6 q7 q2
      go_simp
      (with_reducible refine (HO2.out _).mono ?_)
      rintro e w2 ⟨A, n, c, B, m, d, rfl, hD1, hD2, hB2⟩
      exact hK 41 _ _ (by decide) ((HJ.out.keep hB2).put3 ⟨A, n, c, B, m, d, rfl, hD1, hD2⟩)
    · obtain rfl := Option.some.inj ho
      clear ho hi c0 c1 q38 q39 q40 q41 q6 q7 q2
      go_simp
      exact hK 6 _ _ (by decide) (HJ.out.put4 HB.out _ _ _ _)
    · obtain rfl := Option.some.inj ho
      clear ho hi c0 c1 q38 q39 q40 q41 q6 q7 q2
      go_simp
      exact hK 7 _ _ (by decide) (HJ.out.put5 HB.out _ _ _ _)
    · obtain rfl := Option.some.inj ho
      have d1 := HD.out ⟨1, .data⟩ (by simp) rfl
      have d4 := HD.out ⟨4, .data⟩ (by simp) rfl
      have d5 := HD.out ⟨5, .phase⟩ (by simp) rfl
      obtain ⟨g, eg, hg, hw⟩ := HJ.out.f4 d4
      obtain ⟨A, n, c, B, m, d, e39, -, -⟩ := HJ.out.f1 d1
      rw [eg] at q6
      rw [e39] at q39
      have HR := Lib.hid (HJ.out.put6 eg hg hw e39 d1 d4 d5)
      obtain ⟨⟨p1, p2, p3, p4, p5, p6, p7, p8⟩, r1, r2, r3, r4, r5⟩ := hw
      clear ho hi c0 c1 q38 q40 q41 q7 q2 eg e39 d1 d4 d5 hK
      go_simp
      exact hK' _ HR.out
    · obtain rfl := Option.some.inj ho
      have d3 := HD.out ⟨3, .data⟩ (by simp) rfl
      have d5 := HD.out ⟨5, .data⟩ (by simp) rfl
      have d4 := HD.out ⟨4, .phase⟩ (by simp) rfl
      obtain ⟨g, eg, hg, hw⟩ := HJ.out.f5 d5
      obtain ⟨A, n, c, B, m, d, e41, -, -⟩ := HJ.out.f3 d3
      rw [eg] at q7
      rw [e41] at q41
      have HR := Lib.hid (HJ.out.put7 eg hg hw e41 d3 d4 d5)
      obtain ⟨⟨p1, p2, p3, p4, p5, p6, p7, p8⟩, r1, r2, r3, r4, r5⟩ := hw
      clear ho hi c0 c1 q38 q39 q40 q6 q2 eg e41 d3 d4 d5 hK
      go_simp
      exact hK' _ HR.out
  · intro b v wx hall hJ
    have hall' : ∀ i, i < 8 → b i = true := hall
    obtain ⟨g6, g7, e6, e7⟩ := hJ.ptr hall'
    have HP := Lib.hid (PowL.made hJ HB1.out HW1.out hall' e6 e7)
    simp only [over, List.setIfInBounds_toArray, List.set_cons_zero, List.set_cons_succ, e6, e7]
    generalize v 38 = v38
    generalize v 39 = v39
    generalize v 40 = v40
    generalize v 41 = v41
    clear hall hall' hJ e6 e7 HO1 HO2 HB1 HW1 L0 L1 HLT
    generalize w1.heap.size = base at HP
    clear w1
    rw [← HF0.out] at HP
    clear HF0
    go_wp2_with fail
    go_loopw [43] (fun s wr => ∃ k : Nat, Hid (k ≤ N) ∧ s = .int .i64 (k : Int) ∧ PowL w base g6 g7 (f k) x wr) (fun s _ => N - (intOf s).toNat)
    case atStart => exact ⟨0, Nat.zero_le _, rfl, HP.out⟩
    case round =>
      obtain ⟨k, hk, rfl, hP⟩ := hrel
      obtain ⟨j1, j2, A, n, c, B, m, d, b4, D1, D2⟩ := hP.2.2.2.1.open_
      obtain ⟨i1, i2, A', n', c', B', m', d', b4', D1', D2'⟩ := hP.2.2.2.2.1.open_
      have HPk := Lib.hid hP
      have HDs := Lib.hid (And.intro D1 (And.intro D2 (And.intro D1' D2')))
      have HJ2 := Lib.hid j2
      clear hP D1 D2 D1' D2' HP i1 i2 j1 j2
      obtain ⟨a1, a2, a3, a4⟩ := b4
      obtain ⟨e1, e2, e3, e4⟩ := b4'
      by_cases hlt : k < N
      · have h60 : (k : Int) < 60 := by have := HN60.out; omega
        go_wp2_with fail
        (with_reducible refine (HM.out _ k A n c B m d A' n' c' B' m' d' hlt HDs.out.1 HDs.out.2.1 HDs.out.2.2.1 HDs.out.2.2.2).mono ?_)
        rintro e w2 ⟨A2, n2, c2, B2, m2, d2, rfl, hD1, hD2, hB2⟩
        have HQ := Lib.hid (HPk.out.next hB2 hD1 hD2)
        obtain ⟨⟨p1, p2, p3, p4, p5, p6, p7, p8⟩, r1, r2, r3, r4, r5⟩ := HJ2.out.keep hB2
        clear hB2 hD1 hD2 a1 a2 a3 a4 e1 e2 e3 e4
        go_wp2_with fail
        go_roundw
        case rel => exact ⟨k + 1, hlt, by go_num, HQ.out⟩
        case measure => simp [intOf]; omega
      · obtain rfl : k = N := by have := hk.out; omega
        go_wp2_with fail
        (with_reducible refine (HN.out _ A n c B m d HDs.out.1 HDs.out.2.1).mono ?_)
        rintro e w2 ⟨rfl, hB2⟩
        have B2 := below_trans_same HPk.out.1 hB2
        obtain ⟨⟨c1, c2, c3, c4⟩, c5, c6, c7⟩ := HPk.out.2.2.2.2.2.keep hB2
        clear hB2 a1 a2 a3 a4 e1 e2 e3 e4
        go_wp2_with fail
        exact bodyPost_ret (v := .tuple #[.agg #[.int .i64 u1, .int .i64 u2], .int .i64 q]) (by simp [results, Tryz.results10, go_sem, *]) rfl ⟨rfl, (B2.setCell (by show w.heap.size ≤ w.heap.size + 1; omega) _).setCell (by show w.heap.size ≤ w.heap.size + 1; omega) _⟩

set_option maxRecDepth 100000 in
set_option maxHeartbeats 4000000 in
theorem pow_smallC (x : Rat) (f : Nat → Rat) (N : Nat) (w : World) (hf0 : f 0 = 1) (hfs : ∀ k, f (k + 1) = f k * x) (hlim : ∀ k, k ≤ 60 → (f k).num.natAbs < W ^ 1000 ∧ (f k).den < W ^ 1000)
    (h : vld x.num (x.den : Int) = true) (hN : N ≤ 60) (g0 : decide ((N : Int) < 0) = false) (g1 : decide (10000 < (N : Int)) = false) (g2 : ((x.den : Int) == 1) = true) (g3 : decide (-1 ≤ x.num) = true) (g4 : decide (x.num ≤ 1) = false) (gN : decide (60 < (N : Int)) = false) :
    Calls Tryz.prog 10 #[.agg #[.int .i64 x.num, .int .i64 (x.den : Int)], .int .i64 (N : Int)] w fun e w' => e = .returned (outN (f N)) ∧ Below w.heap.size w w' := by
  have HV : Hid (∀ wx, Calls Tryz.prog 11 #[.agg #[.int .i64 x.num, .int .i64 (x.den : Int)]] wx fun e w' => e = .returned (.bool true) ∧ Below wx.heap.size wx w') := fun wx => by
    have := valid_any x.num (x.den : Int) wx
    rw [h] at this
    exact this
  have HO1 : Hid (∀ wx, Calls Tryz.prog 31 #[.agg #[.int .i64 1, .int .i64 1]] wx (RetR 1 wx)) := fun wx => of_any 1 wx (by decide) (by decide) (by decide)
  have HO2 : Hid (∀ wx, Calls Tryz.prog 31 #[.agg #[.int .i64 x.num, .int .i64 (x.den : Int)]] wx (RetR x wx)) := fun wx => of_any x wx (vld_num h).1 (vld_num h).2.1 (vld_num h).2.2
  have HM : Hid (∀ wx k A n c B m d A' n' c' B' m' d', k < N → D wx (.slice A n c) (f k).num.natAbs → D wx (.slice B m d) (f k).den → D wx (.slice A' n' c') x.num.natAbs → D wx (.slice B' m' d') x.den →
      Calls Tryz.prog 32 #[.agg #[.bool (decide ((f k).num < 0)), .slice A n c, .bool false, .slice B m d], .agg #[.bool (decide (x.num < 0)), .slice A' n' c', .bool false, .slice B' m' d']] wx (RetR (f (k + 1)) wx)) := fun wx k A n c B m d A' n' c' B' m' d' hk k1 k2 k3 k4 => by
    obtain ⟨a1, a2⟩ := vld_le h
    have e1 := k1.len (hlim k (by omega)).1
    have e2 := k2.len (hlim k (by omega)).2
    have e3 := len2 k3 a1
    have e4 := len2 k4 a2
    rw [hfs]
    exact mulR_any _ _ A B A' B' n c m d n' c' m' d' (f k) x wx ⟨rfl, k1, k2⟩ ⟨rfl, k3, k4⟩ (by omega) (by omega) (by omega) (by omega) (by omega) (by omega)
  obtain ⟨u1, u2, q, hout⟩ := outN_shape (f N)
  have HN : Hid (∀ wx A n c B m d, D wx (.slice A n c) (f N).num.natAbs → D wx (.slice B m d) (f N).den → Calls Tryz.prog 22 #[.agg #[.bool (decide ((f N).num < 0)), .slice A n c, .bool false, .slice B m d]] wx fun e w' => e = .returned (.tuple #[.agg #[.int .i64 u1, .int .i64 u2], .int .i64 q]) ∧ Below wx.heap.size wx w') := fun wx A n c B m d k1 k2 => by
    have e1 := k1.len (hlim N hN).1
    have e2 := k2.len (hlim N hN).2
    have := num_any (decide ((f N).num < 0)) A B n c m d (f N) wx ⟨rfl, k1, k2⟩ (by omega) (by omega)
    rw [hout] at this
    exact this
  rw [hout]
  have HF0 := Lib.hid hf0
  clear h hfs hlim hout hf0
  have HN60 := Lib.hid hN
  clear hN
  go_enter Tryz.func10, Tryz.ntmps10
  go_upto_region 1 with fail
  obtain ⟨X, hX, hwX, hz, k0, k1, hW⟩ := boxes2 w (.int .i64 x.num) (.int .i64 (x.den : Int)) (.int .i64 0) (.int .i64 0)
  rw [hX]
  clear hX
  have H0 : Hid (w.heap.size < X.heap.size) := (by omega : w.heap.size < X.heap.size)
  clear hz
  go_wp2_with fail
  (with_reducible refine (HV.out X).mono ?_)
  rintro e w1 ⟨rfl, hB1⟩
  have l0 := (hB1.cell (p := ⟨w.heap.size, 0, none⟩) H0.out).trans k0
  have l1 := (hB1.cell (p := ⟨w.heap.size, 1, none⟩) H0.out).trans k1
  have B1 := hwX.trans (hB1.mono hwX.size)
  have hW1 := hW.keep hB1
  have hlt : w.heap.size < w1.heap.size := Nat.lt_of_lt_of_le H0.out hB1.size
  clear k0 k1 hW H0 HV hB1 hwX
  go_upto_region 9 with fail
  have HB1 := Lib.hid B1
  have HW1 := Lib.hid hW1
  have L0 := Lib.hid l0
  have L1 := Lib.hid l1
  have HLT := Lib.hid hlt
  clear B1 hW1 l0 l1 hlt
  refine wp_region_inv3 [6, 7, 38, 39, 40, 41] (JP w1 x.num (x.den : Int) 1 x) (by kernel_rfl) (by kernel_rfl) (by kernel_rfl) ?_ ?_ ?_
  · exact JP.start
  · intro i b v wx o T' K ho hdep hb hJ hin hout hK hK'
    have hi : i < 8 := (Array.getElem?_eq_some_iff.1 ho).1
    have q38 := hin 38 (by decide)
    have q39 := hin 39 (by decide)
    have q40 := hin 40 (by decide)
    have q41 := hin 41 (by decide)
    have q6 := hin 6 (by decide)
    have q7 := hin 7 (by decide)
    have q2 : T'[2]? = some (.pointer (some ⟨w.heap.size, 0, none⟩)) := (hout 2 (by decide)).trans rfl
    have c0 := (hJ.below.cell (p := ⟨w.heap.size, 0, none⟩) HLT.out).trans L0.out
    have c1 := (hJ.below.cell (p := ⟨w.heap.size, 1, none⟩) HLT.out).trans L1.out
    clear hin hout
    have HJ := Lib.hid hJ
    have HD := Lib.hid hdep
    have HB := Lib.hid hb
    clear hJ hdep hb
    rcases (by omega : i = 0 ∨ i = 1 ∨ i = 2 ∨ i = 3 ∨ i = 4 ∨ i = 5 ∨ i = 6 ∨ i = 7) with rfl | rfl | rfl | rfl | rfl | rfl | rfl | rfl
    · obtain rfl := Option.some.inj ho
      clear ho hi c0 c1 q38 q39 q40 q41 q6 q7 q2
      go_simp
      exact hK 38 _ _ (by decide) HJ.out.put0
    · obtain rfl := Option.some.inj ho
      rw [HJ.out.f0 (HD.out ⟨0, .data⟩ (by simp) rfl)] at q38
      clear ho hi c0 c1 q39 q40 q41 q6 q7 q2
      go_simp
      (with_reducible refine (HO1.out _).mono ?_)
      rintro e w2 ⟨A, n, c, B, m, d, rfl, hD1, hD2, hB2⟩
      exact hK 39 _ _ (by decide) ((HJ.out.keep hB2).put1 ⟨A, n, c, B, m, d, rfl, hD1, hD2⟩)
    · obtain rfl := Option.some.inj ho
      clear ho hi q38 q39 q40 q41 q6 q7
      go_simp
      exact hK 40 _ _ (by decide) HJ.out.put2
    · obtain rfl := Option.some.inj ho
      rw [HJ.out.f2 (HD.out ⟨2, .data⟩ (by simp) rfl)] at q40
      clear ho hi c0 c1 q38 q39 q41 q6 q7 q2
      go_simp
      (with_reducible refine (HO2.out _).mono ?_)
      rintro e w2 ⟨A, n, c, B, m, d, rfl, hD1, hD2, hB2⟩
      exact hK 41 _ _ (by decide) ((HJ.out.keep hB2).put3 ⟨A, n, c, B, m, d, rfl, hD1, hD2⟩)
    · obtain rfl := Option.some.inj ho
      clear ho hi c0 c1 q38 q39 q40 q41 q6 q7 q2
      go_simp
      exact hK 6 _ _ (by decide) (HJ.out.put4 HB.out _ _ _ _)
    · obtain rfl := Option.some.inj ho
      clear ho hi c0 c1 q38 q39 q40 q41 q6 q7 q2
      go_simp
      exact hK 7 _ _ (by decide) (HJ.out.put5 HB.out _ _ _ _)
    · obtain rfl := Option.some.inj ho
      have d1 := HD.out ⟨1, .data⟩ (by simp) rfl
      have d4 := HD.out ⟨4, .data⟩ (by simp) rfl
      have d5 := HD.out ⟨5, .phase⟩ (by simp) rfl
      obtain ⟨g, eg, hg, hw⟩ := HJ.out.f4 d4
      obtain ⟨A, n, c, B, m, d, e39, -, -⟩ := HJ.out.f1 d1
      rw [eg] at q6
      rw [e39] at q39
      have HR := Lib.hid (HJ.out.put6 eg hg hw e39 d1 d4 d5)
      obtain ⟨⟨p1, p2, p3, p4, p5, p6, p7, p8⟩, r1, r2, r3, r4, r5⟩ := hw
      clear ho hi c0 c1 q38 q40 q41 q7 q2 eg e39 d1 d4 d5 hK
      go_simp
      exact hK' _ HR.out
    · obtain rfl := Option.some.inj ho
      have d3 := HD.out ⟨3, .data⟩ (by simp) rfl
      have d5 := HD.out ⟨5, .data⟩ (by simp) rfl
      have d4 := HD.out ⟨4, .phase⟩ (by simp) rfl
      obtain ⟨g, eg, hg, hw⟩ := HJ.out.f5 d5
      obtain ⟨A, n, c, B, m, d, e41, -, -⟩ := HJ.out.f3 d3
      rw [eg] at q7
      rw [e41] at q41
      have HR := Lib.hid (HJ.out.put7 eg hg hw e41 d3 d4 d5)
      obtain ⟨⟨p1, p2, p3, p4, p5, p6, p7, p8⟩, r1, r2, r3, r4, r5⟩ := hw
      clear ho hi c0 c1 q38 q39 q40 q6 q2 eg e41 d3 d4 d5 hK
      go_simp
      exact hK' _ HR.out
  · intro b v wx hall hJ
    have hall' : ∀ i, i < 8 → b i = true := hall
    obtain ⟨g6, g7, e6, e7⟩ := hJ.ptr hall'
    have HP := Lib.hid (PowL.made hJ HB1.out HW1.out hall' e6 e7)
    simp only [over, List.setIfInBounds_toArray, List.set_cons_zero, List.set_cons_succ, e6, e7]
    generalize v 38 = v38
    generalize v 39 = v39
    generalize v 40 = v40
    generalize v 41 = v41
    clear hall hall' hJ e6 e7 HO1 HO2 HB1 HW1 L0 L1 HLT
    generalize w1.heap.size = base at HP
    clear w1
    rw [← HF0.out] at HP
    clear HF0
    go_wp2_with fail
    go_loopw [43] (fun s wr => ∃ k : Nat, Hid (k ≤ N) ∧ s = .int .i64 (k : Int) ∧ PowL w base g6 g7 (f k) x wr) (fun s _ => N - (intOf s).toNat)
    case atStart => exact ⟨0, Nat.zero_le _, rfl, HP.out⟩
    case round =>
      obtain ⟨k, hk, rfl, hP⟩ := hrel
      obtain ⟨j1, j2, A, n, c, B, m, d, b4, D1, D2⟩ := hP.2.2.2.1.open_
      obtain ⟨i1, i2, A', n', c', B', m', d', b4', D1', D2'⟩ := hP.2.2.2.2.1.open_
      have HPk := Lib.hid hP
      have HDs := Lib.hid (And.intro D1 (And.intro D2 (And.intro D1' D2')))
      have HJ2 := Lib.hid j2
      clear hP D1 D2 D1' D2' HP i1 i2 j1 j2
      obtain ⟨a1, a2, a3, a4⟩ := b4
      obtain ⟨e1, e2, e3, e4⟩ := b4'
      by_cases hlt : k < N
      · have h60 : (k : Int) < 60 := by have := HN60.out; omega
        go_wp2_with fail
        (with_reducible refine (HM.out _ k A n c B m d A' n' c' B' m' d' hlt HDs.out.1 HDs.out.2.1 HDs.out.2.2.1 HDs.out.2.2.2).mono ?_)
        rintro e w2 ⟨A2, n2, c2, B2, m2, d2, rfl, hD1, hD2, hB2⟩
        have HQ := Lib.hid (HPk.out.next hB2 hD1 hD2)
        obtain ⟨⟨p1, p2, p3, p4, p5, p6, p7, p8⟩, r1, r2, r3, r4, r5⟩ := HJ2.out.keep hB2
        clear hB2 hD1 hD2 a1 a2 a3 a4 e1 e2 e3 e4
        go_wp2_with fail
        go_roundw
        case rel => exact ⟨k + 1, hlt, by go_num, HQ.out⟩
        case measure => simp [intOf]; omega
      · obtain rfl : k = N := by have := hk.out; omega
        go_wp2_with fail
        (with_reducible refine (HN.out _ A n c B m d HDs.out.1 HDs.out.2.1).mono ?_)
        rintro e w2 ⟨rfl, hB2⟩
        have B2 := below_trans_same HPk.out.1 hB2
        obtain ⟨⟨c1, c2, c3, c4⟩, c5, c6, c7⟩ := HPk.out.2.2.2.2.2.keep hB2
        clear hB2 a1 a2 a3 a4 e1 e2 e3 e4
        go_wp2_with fail
        exact bodyPost_ret (v := .tuple #[.agg #[.int .i64 u1, .int .i64 u2], .int .i64 q]) (by simp [results, Tryz.results10, go_sem, *]) rfl ⟨rfl, (B2.setCell (by show w.heap.size ≤ w.heap.size + 1; omega) _).setCell (by show w.heap.size ≤ w.heap.size + 1; omega) _⟩

end Go.Proofs.YtfhmhkbjcccejaaGreatDoor
