/- The four operations on numbers. The four operations on valid numbers. num.Add, Sub, Mul and Div on any numbers. Fractions of the reference: values, what functions return, boxes. -/
import Derived.Test.YtabaknkjcoibpaaGreatDoorM29
import Derived.Test.YtabaknkjcoibpaaGreatDoorM24
import Derived.Test.YtabaknkjcoibpaaGreatDoorM25

namespace Go.Proofs.YtabaknkjcoibpaaGreatDoor
open Go.RowKit

end Go.Proofs.YtabaknkjcoibpaaGreatDoor

namespace Go.Proofs.YtabaknkjcoibpaaGreatDoor
open Go.RowKit

theorem norm_le (n : Int) (d : Nat) (h : d ≠ 0) : (Rat.normalize n d h).num.natAbs ≤ n.natAbs ∧ (Rat.normalize n d h).den ≤ d := by
  rw [Rat.normalize_eq]
  exact ⟨Int.natAbs_ediv_le_natAbs _ _, Nat.div_le_self _ _⟩

theorem vld_le {x : Rat} (h : vld x.num (x.den : Int) = true) : x.num.natAbs ≤ 1152921504606846976 ∧ x.den ≤ 1152921504606846976 := by
  simp [vld] at h
  omega

theorem W_pow_le {i j : Nat} (h : i ≤ j) : W ^ i ≤ W ^ j := Nat.pow_le_pow_right (by rw [W_eq]; decide) h
theorem W4_le : W ^ 4 ≤ W ^ 1000 := @W_pow_le 4 1000 (by decide)

theorem small_pow {k : Nat} (h : k ≤ 2658455991569831745807614120560689152) : k < W ^ 1000 :=
  Nat.lt_of_lt_of_le (show k < W ^ 4 from Nat.lt_of_le_of_lt h (by show _ < (4294967296 : Nat) ^ 4; decide)) W4_le

theorem mul_le {a b : Nat} (ha : a ≤ 1152921504606846976) (hb : b ≤ 1152921504606846976) : a * b ≤ 1329227995784915872903807060280344576 :=
  Nat.le_trans (Nat.mul_le_mul ha hb) (by decide)

theorem add_lim {x y : Rat} (h : vld x.num (x.den : Int) = true) (h' : vld y.num (y.den : Int) = true) : (x + y).num.natAbs < W ^ 1000 ∧ (x + y).den < W ^ 1000 := by
  obtain ⟨a1, a2⟩ := vld_le h
  obtain ⟨b1, b2⟩ := vld_le h'
  rw [Rat.add_def]
  have k := norm_le (x.num * y.den + y.num * x.den) (x.den * y.den) (Nat.mul_ne_zero x.den_nz y.den_nz)
  have e1 : (x.num * (y.den : Int)).natAbs ≤ 1329227995784915872903807060280344576 := by rw [Int.natAbs_mul, Int.natAbs_natCast]; exact mul_le a1 b2
  have e2 : (y.num * (x.den : Int)).natAbs ≤ 1329227995784915872903807060280344576 := by rw [Int.natAbs_mul, Int.natAbs_natCast]; exact mul_le b1 a2
  have e3 := Int.natAbs_add_le (x.num * (y.den : Int)) (y.num * (x.den : Int))
  have e4 := mul_le a2 b2
  exact ⟨small_pow (Nat.le_trans k.1 (Nat.le_trans e3 (by omega))), small_pow (Nat.le_trans k.2 (Nat.le_trans e4 (by decide)))⟩

theorem sub_lim {x y : Rat} (h : vld x.num (x.den : Int) = true) (h' : vld y.num (y.den : Int) = true) : (x - y).num.natAbs < W ^ 1000 ∧ (x - y).den < W ^ 1000 := by
  obtain ⟨a1, a2⟩ := vld_le h
  obtain ⟨b1, b2⟩ := vld_le h'
  rw [Rat.sub_def]
  have k := norm_le (x.num * y.den - y.num * x.den) (x.den * y.den) (Nat.mul_ne_zero x.den_nz y.den_nz)
  have e1 : (x.num * (y.den : Int)).natAbs ≤ 1329227995784915872903807060280344576 := by rw [Int.natAbs_mul, Int.natAbs_natCast]; exact mul_le a1 b2
  have e2 : (y.num * (x.den : Int)).natAbs ≤ 1329227995784915872903807060280344576 := by rw [Int.natAbs_mul, Int.natAbs_natCast]; exact mul_le b1 a2
  have e3 := Int.natAbs_sub_le (x.num * (y.den : Int)) (y.num * (x.den : Int))
  have e4 := mul_le a2 b2
  exact ⟨small_pow (Nat.le_trans k.1 (Nat.le_trans e3 (by omega))), small_pow (Nat.le_trans k.2 (Nat.le_trans e4 (by decide)))⟩

theorem mul_lim {x y : Rat} (h1 : x.num.natAbs ≤ 1152921504606846976) (h2 : x.den ≤ 1152921504606846976) (h3 : y.num.natAbs ≤ 1152921504606846976) (h4 : y.den ≤ 1152921504606846976) : (x * y).num.natAbs < W ^ 1000 ∧ (x * y).den < W ^ 1000 := by
  rw [Rat.mul_def]
  have k := norm_le (x.num * y.num) (x.den * y.den) (Nat.mul_ne_zero x.den_nz y.den_nz)
  have e1 : (x.num * y.num).natAbs ≤ 1329227995784915872903807060280344576 := by rw [Int.natAbs_mul]; exact mul_le h1 h3
  have e4 := mul_le h2 h4
  exact ⟨small_pow (Nat.le_trans k.1 (Nat.le_trans e1 (by decide))), small_pow (Nat.le_trans k.2 (Nat.le_trans e4 (by decide)))⟩

theorem quo_lim {x y : Rat} (h : vld x.num (x.den : Int) = true) (h' : vld y.num (y.den : Int) = true) (hy : y.num ≠ 0) : (x / y).num.natAbs < W ^ 1000 ∧ (x / y).den < W ^ 1000 := by
  obtain ⟨a1, a2⟩ := vld_le h
  obtain ⟨b1, b2⟩ := vld_le h'
  rw [Rat.div_def]
  have k := inv_num y hy
  exact mul_lim a1 a2 (by omega) (by omega)

theorem len2 {w : World} {A : Option Addr} {n c x : Nat} (h : D w (.slice A n c) x) (hx : x ≤ 1152921504606846976) : n ≤ 2 := h.len (Nat.lt_of_le_of_lt hx (by show _ < (4294967296 : Nat) ^ 2; decide))

end Go.Proofs.YtabaknkjcoibpaaGreatDoor

namespace Go.Proofs.YtabaknkjcoibpaaGreatDoor
open Go.RowKit

/-- The fraction that a number stands for. -/
def fr (t l : Int) : Rat := mkRat t l.toNat
theorem fr_of (x : Rat) : fr x.num (x.den : Int) = x := by
  show mkRat x.num ((x.den : Int)).toNat = x
  rw [Int.toNat_natCast]
  exact Rat.mkRat_self x

theorem vld_rat {t l : Int} (h : vld t l = true) : ∃ x : Rat, x.num = t ∧ (x.den : Int) = l ∧ fr t l = x := by
  have h1 : 1 ≤ l ∧ Nat.gcd t.natAbs l.toNat = 1 := by
    simp [vld] at h
    exact ⟨by omega, h.2⟩
  have e : ((l.toNat : Nat) : Int) = l := by omega
  refine ⟨⟨t, l.toNat, by omega, h1.2⟩, rfl, e, ?_⟩
  have := fr_of ⟨t, l.toNat, by omega, h1.2⟩
  simp only [e] at this
  exact this

/-- The parts and the error of a result. -/
def outT (z : Rat) : Int × Int × Int := if Fits z then (z.num, (z.den : Int), 0) else (0, 0, 3)
def resT (f : Rat → Rat → Rat) (t l t' l' : Int) : Int × Int × Int := if vld t l && vld t' l' then outT (f (fr t l) (fr t' l')) else (0, 0, 1)
def val3 (r : Int × Int × Int) : Value := .tuple #[.agg #[.int .i64 r.1, .int .i64 r.2.1], .int .i64 r.2.2]
theorem outN_val (z : Rat) : outN z = val3 (outT z) := by
  unfold outN outT val3
  split <;> rfl

theorem resT_bad {f : Rat → Rat → Rat} {t l t' l' : Int} (h : (vld t l && vld t' l') = false) : resT f t l t' l' = (0, 0, 1) := by
  unfold resT
  rw [h]
  rfl
theorem resT_ok {f : Rat → Rat → Rat} (x y : Rat) (h : vld x.num (x.den : Int) = true) (h' : vld y.num (y.den : Int) = true) : resT f x.num x.den y.num y.den = outT (f x y) := by
  unfold resT
  rw [h, h', fr_of, fr_of]
  rfl

end Go.Proofs.YtabaknkjcoibpaaGreatDoor

namespace Go.Proofs.YtabaknkjcoibpaaGreatDoor
open Go.RowKit

/-- The quotient of two integers. -/
def qt (z z' : Int) : Rat := mkRat (if z' < 0 then -z else z) z'.natAbs

theorem qt_parts (z z' : Int) (h0 : z' ≠ 0) : (if z' < 0 then -z else z).tdiv ((Nat.gcd z.natAbs z'.natAbs : Nat) : Int) = (qt z z').num ∧ (if z' < 0 then -z' else z').tdiv ((Nat.gcd z.natAbs z'.natAbs : Nat) : Int) = ((qt z z').den : Int) := by
  obtain ⟨N, hN⟩ : ∃ N, (if z' < 0 then -z else z) = N := ⟨_, rfl⟩
  have hNa : N.natAbs = z.natAbs := by rw [← hN]; split <;> simp
  have hD : (if z' < 0 then -z' else z') = (z'.natAbs : Int) := by split <;> omega
  have hd : z'.natAbs ≠ 0 := by omega
  obtain ⟨d, hde⟩ : ∃ d, z'.natAbs = d := ⟨_, rfl⟩
  obtain ⟨G, hG⟩ : ∃ G, Nat.gcd z.natAbs d = G := ⟨_, rfl⟩
  unfold qt
  rw [hD, hN, hde, hG]
  rw [hde] at hd
  have hg : N.natAbs.gcd d = G := by rw [hNa]; exact hG
  have hGd : G ∣ d := by rw [← hG]; exact Nat.gcd_dvd_right _ _
  have hGn : (G : Int) ∣ N := by
    rw [← Int.natAbs_dvd_natAbs, Int.natAbs_natCast, hNa, ← hG]
    exact Nat.gcd_dvd_left _ _
  have h1 := rat_ratio (n := N) (t := N.tdiv (G : Int)) (d := d) (l := d / G) (g := G) hd hg (Int.tdiv_mul_cancel hGn).symm (Nat.div_mul_cancel hGd).symm
  exact ⟨h1.1.symm, by rw [h1.2]; exact (Int.ofNat_tdiv d G).symm⟩
theorem qt_le (z z' : Int) (h0 : z' ≠ 0) : (qt z z').num.natAbs ≤ z.natAbs ∧ (qt z z').den ≤ z'.natAbs := by
  obtain ⟨h1, h2⟩ := qt_parts z z' h0
  constructor
  · rw [← h1, Int.natAbs_tdiv]
    refine Nat.le_trans (Nat.div_le_self _ _) ?_
    split <;> simp
  · have : ((qt z z').den : Int).natAbs ≤ z'.natAbs := by
      rw [← h2, Int.natAbs_tdiv]
      refine Nat.le_trans (Nat.div_le_self _ _) ?_
      split <;> simp
    simpa using this
theorem qt_add (x y : Rat) : qt (x.num * (y.den : Int) + y.num * (x.den : Int)) ((x.den : Int) * (y.den : Int)) = x + y := by
  have h : ¬ ((x.den : Int) * (y.den : Int) < 0) := by rw [← Int.natCast_mul]; omega
  unfold qt
  rw [if_neg h, ← Int.natCast_mul, Int.natAbs_natCast, Rat.add_def']
theorem qt_mul (x y : Rat) : qt (x.num * y.num) ((x.den : Int) * (y.den : Int)) = x * y := by
  have h : ¬ ((x.den : Int) * (y.den : Int) < 0) := by rw [← Int.natCast_mul]; omega
  unfold qt
  rw [if_neg h, ← Int.natCast_mul, Int.natAbs_natCast, Rat.mul_def']

/-- A value that is a fraction. -/
def RFV (w : World) (v : Value) (x : Rat) : Prop := ∃ s neg A n c s' neg' A' n' c', v = .agg #[.int .i64 s, .bool neg, .slice A n c, .int .i64 s', .bool neg', .slice A' n' c'] ∧ RI w s neg A n c x.num ∧ RI w s' neg' A' n' c' (x.den : Int)
theorem RFV.keep {w w' : World} {v : Value} {x : Rat} (h : RFV w v x) (hb : Below w.heap.size w w') : RFV w' v x := by
  obtain ⟨s, neg, A, n, c, s', neg', A', n', c', e, h1, h2⟩ := h
  exact ⟨s, neg, A, n, c, s', neg', A', n', c', e, h1.keep hb, h2.keep hb⟩
theorem IV.drew {w : World} {v : Value} {z : Int} (h : IV w v z) : IV w.drew v z := h
theorem RFV.drew {w : World} {v : Value} {x : Rat} (h : RFV w v x) : RFV w.drew v x := h

/-- What is known of a value. -/
inductive Sp where
  | val (v : Value)
  | int (z : Int)
  | rat (x : Rat)
def Sp.ok : Sp → Value → World → Prop
  | .val v, u, _ => u = v
  | .int z, u, w => IV w u z
  | .rat x, u, w => RFV w u x
theorem Sp.keep {s : Sp} {u : Value} {w w' : World} (h : s.ok u w) (hb : Below w.heap.size w w') : s.ok u w' := by
  cases s with
  | val v => exact h
  | int z => exact IV.keep h hb
  | rat x => exact RFV.keep h hb
/-- What the operations of a region make. -/
def Spl (L : List Sp) (i : Nat) (u : Value) (w : World) : Prop := (L.getD i (.val (.int .i64 0))).ok u w
theorem Spl.keep {L : List Sp} (i : Nat) (u : Value) (w w' : World) (hb : Below w.heap.size w w') (h : Spl L i u w) : Spl L i u w' := Sp.keep h hb
/-- A value of which this is known is returned. -/
def RetV (s : Sp) (w : World) (e : Ending) (w' : World) : Prop := ∃ u, e = .returned u ∧ s.ok u w' ∧ Below w.heap.size w w'
theorem RetI.v {z : Int} {w : World} {e : Ending} {w' : World} (h : RetI z w e w') : RetV (.int z) w e w' := by
  obtain ⟨s, neg, A, n, c, rfl, h1, h2⟩ := h
  exact ⟨_, rfl, ⟨s, neg, A, n, c, rfl, h1⟩, h2⟩

theorem iv_times (K : Nat) {u u' : Value} {z z' : Int} {w : World} (h : IV w u z) (h' : IV w u' z') (hK : K ≤ 250000) (hz : z.natAbs < Bs ^ K) (hz' : z'.natAbs < Bs ^ K) : Calls Tryz.prog 106 #[u, u'] w (RetV (.int (z * z')) w) := by
  obtain ⟨s, neg, A, n, c, rfl, h1⟩ := h
  obtain ⟨s', neg', A', n', c', rfl, h2⟩ := h'
  exact (rtimes_any _ _ _ _ _ _ _ _ _ _ K _ _ w h1 h2 hK hz hz').mono fun _ _ => RetI.v
theorem iv_plus (K : Nat) {u u' : Value} {z z' : Int} {w : World} (h : IV w u z) (h' : IV w u' z') (hK : K ≤ 250000) (hz : z.natAbs < Bs ^ K) (hz' : z'.natAbs < Bs ^ K) : Calls Tryz.prog 130 #[u, u'] w (RetV (.int (z + z')) w) := by
  obtain ⟨s, neg, A, n, c, rfl, h1⟩ := h
  obtain ⟨s', neg', A', n', c', rfl, h2⟩ := h'
  exact (rplus_any _ _ _ _ _ _ _ _ _ _ K _ _ w h1 h2 hK hz hz').mono fun _ _ => RetI.v
theorem iv_gcd (K : Nat) {u u' : Value} {z z' : Int} {w : World} (h : IV w u z) (h' : IV w u' z') (hK : K ≤ 250000) (hz : z.natAbs < Bs ^ K) (hz' : z'.natAbs < Bs ^ K) : Calls Tryz.prog 128 #[u, u'] w (RetV (.int (Nat.gcd z.natAbs z'.natAbs : Nat)) w) := by
  obtain ⟨s, neg, A, n, c, rfl, h1⟩ := h
  obtain ⟨s', neg', A', n', c', rfl, h2⟩ := h'
  exact (rgcd_any _ _ _ _ _ _ _ _ _ _ K _ _ w h1 h2 hK hz hz').mono fun _ _ => RetI.v
theorem iv_compare (K : Nat) {u u' : Value} {z z' : Int} {w : World} (h : IV w u z) (h' : IV w u' z') (hK : K ≤ 250000) (hz : z.natAbs < Bs ^ K) (hz' : z'.natAbs < Bs ^ K) : Calls Tryz.prog 71 #[u, u'] w (RetV (.val (.int .i64 (sgnI (z - z')))) w) := by
  obtain ⟨s, neg, A, n, c, rfl, h1⟩ := h
  obtain ⟨s', neg', A', n', c', rfl, h2⟩ := h'
  refine (rcompare_any _ _ _ _ _ _ _ _ _ _ K _ _ w h1 h2 hK hz hz').mono ?_
  rintro e w' ⟨rfl, hB⟩
  exact ⟨_, rfl, rfl, hB⟩
theorem iv_minus (K : Nat) {u : Value} {z : Int} {w : World} (h : IV w u z) (hK : K ≤ 250000) (hz : z.natAbs < Bs ^ K) : Calls Tryz.prog 136 #[u] w (RetV (.int (-z)) w) := by
  obtain ⟨s, neg, A, n, c, rfl, h1⟩ := h
  exact (rminus_any _ _ _ _ _ _ w h1 (by have := h1.len hz; omega)).mono fun _ _ => RetI.v
theorem iv_sign (K : Nat) {u : Value} {z : Int} {w : World} (h : IV w u z) (hK : K ≤ 250000) (hz : z.natAbs < Bs ^ K) : Calls Tryz.prog 108 #[u] w (RetV (.val (.int .i64 (sgnI z))) w) := by
  obtain ⟨s, neg, A, n, c, rfl, h1⟩ := h
  refine (rsign_any _ _ _ _ _ _ w h1 (by have := h1.len hz; omega)).mono ?_
  rintro e w' ⟨rfl, hB⟩
  exact ⟨_, rfl, rfl, hB⟩
theorem iv_of (z : Int) (w : World) (h1 : -9223372036854775808 ≤ z) (h2 : z ≤ 9223372036854775807) : Calls Tryz.prog 70 #[.int .i64 z] w (RetV (.int z) w) := (rof_any z w h1 h2).mono fun _ _ => RetI.v
theorem iv_make (K : Nat) {u u' : Value} {z z' : Int} {w : World} (h : IV w u z) (h' : IV w u' z') (hK : K ≤ 250000) (hz : z.natAbs < Bs ^ K) (hz' : z'.natAbs < Bs ^ K) (h0 : z' ≠ 0) : Calls Tryz.prog 129 #[u, u'] w (RetV (.rat (qt z z')) w) := by
  obtain ⟨s, neg, A, n, c, rfl, h1⟩ := h
  obtain ⟨s', neg', A', n', c', rfl, h2⟩ := h'
  refine (rmake_any _ _ _ _ _ _ _ _ _ _ K _ _ w h1 h2 hK hz hz' h0).mono ?_
  obtain ⟨e1, e2⟩ := qt_parts z z' h0
  rw [e1, e2]
  rintro e w' ⟨s, neg, A, n, c, s', neg', A', n', c', rfl, k1, k2, k3⟩
  exact ⟨_, rfl, ⟨s, neg, A, n, c, s', neg', A', n', c', rfl, k1, k2⟩, k3⟩

/-- A box of six cells. -/
def B6 (g : Nat) (a b c d e f : Value) (w : World) : Prop := w.cell? ⟨g, 0, none⟩ = some a ∧ w.cell? ⟨g, 1, none⟩ = some b ∧ w.cell? ⟨g, 2, none⟩ = some c ∧ w.cell? ⟨g, 3, none⟩ = some d ∧ w.cell? ⟨g, 4, none⟩ = some e ∧ w.cell? ⟨g, 5, none⟩ = some f ∧ g < w.heap.size
theorem B6.keep {g : Nat} {a b c d e f : Value} {w w' : World} (h : B6 g a b c d e f w) (hb : Below w.heap.size w w') : B6 g a b c d e f w' := by
  obtain ⟨h0, h1, h2, h3, h4, h5, hz⟩ := h
  exact ⟨(hb.cell (p := ⟨g, 0, none⟩) hz).trans h0, (hb.cell (p := ⟨g, 1, none⟩) hz).trans h1, (hb.cell (p := ⟨g, 2, none⟩) hz).trans h2, (hb.cell (p := ⟨g, 3, none⟩) hz).trans h3, (hb.cell (p := ⟨g, 4, none⟩) hz).trans h4, (hb.cell (p := ⟨g, 5, none⟩) hz).trans h5, Nat.lt_of_lt_of_le hz hb.size⟩
theorem W6.put {g : Nat} {w : World} (h : W6 g w) (a b c d e f : Value) : B6 g a b c d e f (set6 w g a b c d e f) := by
  obtain ⟨⟨p, q, r, p', q', r', h0, h1, h2, h3, h4, h5⟩, -, hx⟩ := h
  have hz := hx.lt
  refine ⟨?_, ?_, ?_, ?_, ?_, ?_, ?_⟩
  · simp [set6, go_sem, h0]
  · simp [set6, go_sem, h1]
  · simp [set6, go_sem, h2]
  · simp [set6, go_sem, h3]
  · simp [set6, go_sem, h4]
  · simp [set6, go_sem, h5]
  · exact Nat.lt_of_lt_of_le hz (Nat.le_trans (Nat.le_trans (Nat.le_trans (size_set _ _ _ _) (size_set _ _ _ _)) (size_set _ _ _ _)) (Nat.le_trans (Nat.le_trans (size_set _ _ _ _) (size_set _ _ _ _)) (size_set _ _ _ _)))

/-- The boxes of two fractions, and one for the result. -/
structure F2 (w : World) (a b c d e f a' b' c' d' e' f' : Value) (wx : World) : Prop where
  below : Below w.heap.size w wx
  ba : B6 w.heap.size a b c d e f wx
  bb : B6 (w.heap.size + 1) a' b' c' d' e' f' wx
  wc : W6 (w.heap.size + 1 + 1) wx
theorem F2.keep {w : World} {a b c d e f a' b' c' d' e' f' : Value} (wx wy : World) (h : F2 w a b c d e f a' b' c' d' e' f' wx) (hb : Below wx.heap.size wx wy) : F2 w a b c d e f a' b' c' d' e' f' wy :=
  ⟨h.below.trans (hb.mono h.below.size), h.ba.keep hb, h.bb.keep hb, h.wc.keep hb⟩
theorem F2.new (w : World) (a b c d e f a' b' c' d' e' f' p q r p' q' r' : Value) : F2 w a b c d e f a' b' c' d' e' f' (((w.alloc (.cells #[a, b, c, d, e, f] 127)).alloc (.cells #[a', b', c', d', e', f'] 127)).alloc (.cells #[p, q, r, p', q', r'] 127)) := by
  refine ⟨(((Below.refl _ _).alloc (Nat.le_refl _) _).alloc (by simp) _).alloc (by simp; omega) _, ?_, ?_, W6.new _ _ _ _ _ _ _ (by simp)⟩
  · simp [B6, go_sem]
  · simp [B6, go_sem]
/-- The box of one fraction, and one for the result. -/
structure F1 (w : World) (a b c d e f : Value) (wx : World) : Prop where
  below : Below w.heap.size w wx
  ba : B6 w.heap.size a b c d e f wx
  wc : W6 (w.heap.size + 1) wx
theorem F1.keep {w : World} {a b c d e f : Value} (wx wy : World) (h : F1 w a b c d e f wx) (hb : Below wx.heap.size wx wy) : F1 w a b c d e f wy :=
  ⟨h.below.trans (hb.mono h.below.size), h.ba.keep hb, h.wc.keep hb⟩
theorem F1.new (w : World) (a b c d e f p q r p' q' r' : Value) : F1 w a b c d e f ((w.alloc (.cells #[a, b, c, d, e, f] 127)).alloc (.cells #[p, q, r, p', q', r'] 127)) := by
  refine ⟨((Below.refl _ _).alloc (Nat.le_refl _) _).alloc (by simp) _, ?_, W6.new _ _ _ _ _ _ _ (by simp)⟩
  simp [B6, go_sem]

/-- The result lies in its box. -/
def EndR (w : World) (g : Nat) (x : Rat) (wf : World) : Prop := ∃ s neg A n c s' neg' A' n' c', B6 g (.int .i64 s) (.bool neg) (.slice A n c) (.int .i64 s') (.bool neg') (.slice A' n' c') wf ∧ RI wf s neg A n c x.num ∧ RI wf s' neg' A' n' c' (x.den : Int) ∧ Below w.heap.size w wf
theorem endR_store {w wx : World} {g : Nat} {x : Rat} {s s' : Int} {neg neg' : Bool} {A A' : Option Addr} {n c n' c' : Nat} (hB : Below w.heap.size w wx) (hg : w.heap.size ≤ g) (hW : W6 g wx) (h : RI wx s neg A n c x.num) (h' : RI wx s' neg' A' n' c' (x.den : Int)) : EndR w g x (set6 wx g (.int .i64 s) (.bool neg) (.slice A n c) (.int .i64 s') (.bool neg') (.slice A' n' c')) :=
  ⟨s, neg, A, n, c, s', neg', A', n', c', hW.put _ _ _ _ _ _, h.set_6 hW.2.2 _ _ _ _ _ _, h'.set_6 hW.2.2 _ _ _ _ _ _, set6_below hB hg _ _ _ _ _ _⟩

end Go.Proofs.YtabaknkjcoibpaaGreatDoor
