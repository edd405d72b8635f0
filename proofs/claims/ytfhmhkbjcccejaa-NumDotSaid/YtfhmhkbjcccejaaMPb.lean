/- num.Pow: the two boxes of its loop, made in a drawn order. num.unitPow, and num.Pow of 1, 0 and -1. Powers of fractions. num.Pow of 1, 0 and -1. num.Pow: products. awake, out of one value of num.Pow. num.Pow on any arguments. -/
import Derived.Test.YtfhmhkbjcccejaaMNa
import Derived.Test.YtfhmhkbjcccejaaMInv2
import Derived.Test.YtfhmhkbjcccejaaMNum7

namespace Go.Proofs.Ytfhmhkbjcccejaa
open Go.RowKit

/-- A value that reads as a fraction. -/
def RV (w : World) (q : Value) (x : Rat) : Prop := ∃ A n c B m d, q = .agg #[.bool (decide (x.num < 0)), .slice A n c, .bool false, .slice B m d] ∧ D w (.slice A n c) x.num.natAbs ∧ D w (.slice B m d) x.den
theorem RV.keep {w w' : World} {q : Value} {x : Rat} (h : RV w q x) (hb : Below w.heap.size w w') : RV w' q x := by
  obtain ⟨A, n, c, B, m, d, e, h1, h2⟩ := h
  exact ⟨A, n, c, B, m, d, e, h1.keep hb, h2.keep hb⟩
theorem RV.set {w : World} {q : Value} {x : Rat} (h : RV w q x) {k T : Nat} (hb : Bx w k T) (hT : T ≠ 98) (o : Nat) (u : Value) : RV (w.setCell ⟨k, o, none⟩ u) q x := by
  obtain ⟨A, n, c, B, m, d, e, h1, h2⟩ := h
  exact ⟨A, n, c, B, m, d, e, h1.set hb hT o u, h2.set hb hT o u⟩

/-- A value that points to a box of four cells, from a block on. -/
def PB (base : Nat) (w : World) (p : Value) : Prop := ∃ g, p = .pointer (some ⟨g, 0, none⟩) ∧ base ≤ g ∧ Wr4 g 57 w
theorem PB.keep {base : Nat} {w w' : World} {p : Value} (h : PB base w p) (hb : Below w.heap.size w w') : PB base w' p := by
  obtain ⟨g, e, h1, h2⟩ := h
  exact ⟨g, e, h1, h2.keep hb⟩
theorem PB.new {base : Nat} (w : World) (p q r s : Value) (h : base ≤ w.heap.size) : PB base (w.alloc (.cells #[p, q, r, s] 57)) (.pointer (some ⟨w.heap.size, 0, none⟩)) :=
  ⟨w.heap.size, rfl, h, Wr4.new w p q r s 57 rfl⟩

/-- The store of four cells. -/
def set4 (w : World) (g : Nat) (a b c d : Value) : World := (((w.setCell ⟨g, 0, none⟩ a).setCell ⟨g, 1, none⟩ b).setCell ⟨g, 2, none⟩ c).setCell ⟨g, 3, none⟩ d
theorem Wr4.bx {g T : Nat} {w : World} (h : Wr4 g T w) : Bx w g T := h.2.2.2.2.2
theorem RV.set_4 {w : World} {q : Value} {x : Rat} (h : RV w q x) {g : Nat} (hw : Wr4 g 57 w) (a b c d : Value) : RV (set4 w g a b c d) q x :=
  (((h.set hw.bx (by decide) _ _).set (hw.bx.set _ _ _) (by decide) _ _).set ((hw.bx.set _ _ _).set _ _ _) (by decide) _ _).set (((hw.bx.set _ _ _).set _ _ _).set _ _ _) (by decide) _ _
theorem PB.set_4 {base : Nat} {w : World} {p : Value} (h : PB base w p) {g : Nat} (hw : Wr4 g 57 w) (a b c d : Value) : PB base (set4 w g a b c d) p := by
  obtain ⟨g', e, h1, h2⟩ := h
  refine ⟨g', e, h1, ?_⟩
  by_cases hg : g' = g
  · subst hg
    exact (h2.set a b c d).2
  · exact (((h2.far hg _ _).far hg _ _).far hg _ _).far hg _ _
theorem set4_below {base : Nat} {X w : World} (h : Below base X w) {g : Nat} (hg : base ≤ g) (a b c d : Value) : Below base X (set4 w g a b c d) :=
  (((h.setCell hg _).setCell hg _).setCell hg _).setCell hg _

/-- A box that holds a fraction. -/
def BV (base : Nat) (w : World) (p : Value) (x : Rat) : Prop := ∃ g a b c d, p = .pointer (some ⟨g, 0, none⟩) ∧ base ≤ g ∧ Wr4 g 57 w ∧ B4 g a b c d w ∧ RV w (.agg #[a, b, c, d]) x
theorem Wr4.lt {g T : Nat} {w : World} (h : Wr4 g T w) : g < w.heap.size := by obtain ⟨_, _, _, _, _, cs, fr, hc⟩ := h; exact lt_of_heap hc
theorem BV.keep {base : Nat} {w w' : World} {p : Value} {x : Rat} (h : BV base w p x) (hb : Below w.heap.size w w') : BV base w' p x := by
  obtain ⟨g, a, b, c, d, e, h1, h2, h3, h4⟩ := h
  exact ⟨g, a, b, c, d, e, h1, h2.keep hb, h3.keep h2.lt hb, h4.keep hb⟩
theorem BV.set_4 {base : Nat} {w : World} {p : Value} {x : Rat} (h : BV base w p x) {g : Nat} (hw : Wr4 g 57 w) (hp : p ≠ .pointer (some ⟨g, 0, none⟩)) (a b c d : Value) : BV base (set4 w g a b c d) p x := by
  obtain ⟨g', a', b', c', d', e, h1, h2, h3, h4⟩ := h
  have hg : g' ≠ g := fun h => hp (by rw [e, h])
  exact ⟨g', a', b', c', d', e, h1, (((h2.far hg _ _).far hg _ _).far hg _ _).far hg _ _, (((h3.far hg _ _).far hg _ _).far hg _ _).far hg _ _, h4.set_4 hw a b c d⟩
theorem BV.made {base : Nat} {w : World} {g : Nat} (hg : base ≤ g) (hw : Wr4 g 57 w) {a b c d : Value} {x : Rat} (h : RV w (.agg #[a, b, c, d]) x) : BV base (set4 w g a b c d) (.pointer (some ⟨g, 0, none⟩)) x :=
  ⟨g, a, b, c, d, rfl, hg, (hw.set a b c d).2, (hw.set a b c d).1, h.set_4 hw a b c d⟩

/-- What has come up and what it has made. -/
structure JP (w1 : World) (t l : Int) (y x : Rat) (b : Nat → Bool) (v : Nat → Value) (wx : World) : Prop where
  below : Below w1.heap.size w1 wx
  f0 : b 0 = true → v 38 = .agg #[.int .i64 1, .int .i64 1]
  f1 : b 1 = true → RV wx (v 39) y
  f2 : b 2 = true → v 40 = .agg #[.int .i64 t, .int .i64 l]
  f3 : b 3 = true → RV wx (v 41) x
  f4 : b 4 = true → PB w1.heap.size wx (v 6)
  f5 : b 5 = true → PB w1.heap.size wx (v 7)
  f45 : b 4 = true → b 5 = true → v 6 ≠ v 7
  f6 : b 6 = true → BV w1.heap.size wx (v 6) y
  f7 : b 7 = true → BV w1.heap.size wx (v 7) x
  g6 : b 6 = true → b 4 = true
  g7 : b 7 = true → b 5 = true

theorem JP.keep {w1 : World} {t l : Int} {y x : Rat} {b : Nat → Bool} {v : Nat → Value} {wx wy : World} (h : JP w1 t l y x b v wx) (hb : Below wx.heap.size wx wy) : JP w1 t l y x b v wy where
  below := below_trans_same h.below hb
  f0 := h.f0
  f1 g := (h.f1 g).keep hb
  f2 := h.f2
  f3 g := (h.f3 g).keep hb
  f4 g := (h.f4 g).keep hb
  f5 g := (h.f5 g).keep hb
  f45 := h.f45
  f6 g := (h.f6 g).keep hb
  f7 g := (h.f7 g).keep hb
  g6 := h.g6
  g7 := h.g7

theorem PB.ne {base : Nat} {w : World} {p : Value} (h : PB base w p) : p ≠ .pointer (some ⟨w.heap.size, 0, none⟩) := by
  obtain ⟨g, e, h1, h2⟩ := h
  intro h
  rw [e] at h
  injection h with h
  injection h with h
  injection h with h
  exact Nat.ne_of_lt h2.lt h

section
variable {w1 : World} {t l : Int} {y x : Rat} {b : Nat → Bool} {v : Nat → Value} {wx : World}
theorem JP.start : JP w1 t l y x (fun _ => false) v w1.drew :=
  ⟨Below.drew (Below.refl _ _), Bool.noConfusion, Bool.noConfusion, Bool.noConfusion, Bool.noConfusion, Bool.noConfusion, Bool.noConfusion, Bool.noConfusion, Bool.noConfusion, Bool.noConfusion, Bool.noConfusion, Bool.noConfusion⟩
theorem JP.put0 (h : JP w1 t l y x b v wx) : JP w1 t l y x (updB b 0) (updV v 38 (.agg #[.int .i64 1, .int .i64 1])) wx :=
  ⟨h.below, fun _ => rfl, h.f1, h.f2, h.f3, h.f4, h.f5, h.f45, h.f6, h.f7, h.g6, h.g7⟩
theorem JP.put1 (h : JP w1 t l y x b v wx) {q : Value} (hq : RV wx q y) : JP w1 t l y x (updB b 1) (updV v 39 q) wx :=
  ⟨h.below, h.f0, fun _ => hq, h.f2, h.f3, h.f4, h.f5, h.f45, h.f6, h.f7, h.g6, h.g7⟩
theorem JP.put2 (h : JP w1 t l y x b v wx) : JP w1 t l y x (updB b 2) (updV v 40 (.agg #[.int .i64 t, .int .i64 l])) wx :=
  ⟨h.below, h.f0, h.f1, fun _ => rfl, h.f3, h.f4, h.f5, h.f45, h.f6, h.f7, h.g6, h.g7⟩
theorem JP.put3 (h : JP w1 t l y x b v wx) {q : Value} (hq : RV wx q x) : JP w1 t l y x (updB b 3) (updV v 41 q) wx :=
  ⟨h.below, h.f0, h.f1, h.f2, fun _ => hq, h.f4, h.f5, h.f45, h.f6, h.f7, h.g6, h.g7⟩
theorem JP.put4 (h : JP w1 t l y x b v wx) (h6 : b 4 = false) (p q r s : Value) : JP w1 t l y x (updB b 4) (updV v 6 (.pointer (some ⟨wx.heap.size, 0, none⟩))) (wx.alloc (.cells #[p, q, r, s] 57)) :=
  have k := h.keep (below_alloc wx (.cells #[p, q, r, s] 57))
  ⟨k.below, k.f0, k.f1, k.f2, k.f3, fun _ => PB.new wx p q r s h.below.size, k.f5, fun _ g e => (h.f5 g).ne e.symm, fun g => (by have := h.g6 g; rw [h6] at this; cases this), k.f7, fun _ => rfl, k.g7⟩
theorem JP.put5 (h : JP w1 t l y x b v wx) (h7 : b 5 = false) (p q r s : Value) : JP w1 t l y x (updB b 5) (updV v 7 (.pointer (some ⟨wx.heap.size, 0, none⟩))) (wx.alloc (.cells #[p, q, r, s] 57)) :=
  have k := h.keep (below_alloc wx (.cells #[p, q, r, s] 57))
  ⟨k.below, k.f0, k.f1, k.f2, k.f3, k.f4, fun _ => PB.new wx p q r s h.below.size, fun g _ e => (h.f4 g).ne e, k.f6, fun g => (by have := h.g7 g; rw [h7] at this; cases this), k.g6, fun _ => rfl⟩
theorem JP.put6 (h : JP w1 t l y x b v wx) {g : Nat} {p q r s : Value} (hv : v 6 = .pointer (some ⟨g, 0, none⟩)) (hg : w1.heap.size ≤ g) (hw : Wr4 g 57 wx) (hq : v 39 = .agg #[p, q, r, s]) (h1 : b 1 = true) (h4 : b 4 = true) (h5 : b 5 = true) :
    JP w1 t l y x (updB b 6) v (set4 wx g p q r s) :=
  ⟨set4_below h.below hg _ _ _ _, h.f0, fun k => (h.f1 k).set_4 hw _ _ _ _, h.f2, fun k => (h.f3 k).set_4 hw _ _ _ _, fun k => (h.f4 k).set_4 hw _ _ _ _, fun k => (h.f5 k).set_4 hw _ _ _ _, h.f45,
    fun _ => by rw [hv]; exact BV.made hg hw (by rw [← hq]; exact h.f1 h1), fun k => (h.f7 k).set_4 hw (by rw [← hv]; exact fun e => h.f45 h4 h5 e.symm) _ _ _ _, fun _ => h4, h.g7⟩
theorem JP.put7 (h : JP w1 t l y x b v wx) {g : Nat} {p q r s : Value} (hv : v 7 = .pointer (some ⟨g, 0, none⟩)) (hg : w1.heap.size ≤ g) (hw : Wr4 g 57 wx) (hq : v 41 = .agg #[p, q, r, s]) (h3 : b 3 = true) (h4 : b 4 = true) (h5 : b 5 = true) :
    JP w1 t l y x (updB b 7) v (set4 wx g p q r s) :=
  ⟨set4_below h.below hg _ _ _ _, h.f0, fun k => (h.f1 k).set_4 hw _ _ _ _, h.f2, fun k => (h.f3 k).set_4 hw _ _ _ _, fun k => (h.f4 k).set_4 hw _ _ _ _, fun k => (h.f5 k).set_4 hw _ _ _ _, h.f45,
    fun k => (h.f6 k).set_4 hw (by rw [← hv]; exact fun e => h.f45 h4 h5 e) _ _ _ _, fun _ => by rw [hv]; exact BV.made hg hw (by rw [← hq]; exact h.f3 h3), h.g6, fun _ => h5⟩
end

end Go.Proofs.Ytfhmhkbjcccejaa

namespace Go.Proofs.Ytfhmhkbjcccejaa
open Go.RowKit

/-- -1, 0 or 1 to the power of n. -/
def unitT (t n : Int) : Int := if n = 0 then 1 else if n % 2 = 0 then max t (-t) else t

set_option maxRecDepth 100000 in
set_option maxHeartbeats 2000000 in
theorem unit_any (t n : Int) (w : World) (h : (-1 ≤ t ∧ t ≤ 1) ∧ 0 ≤ n) :
    Calls Try.prog 36 #[.agg #[.int .i64 t, .int .i64 1], .int .i64 n] w fun e w' => e = .returned (.agg #[.int .i64 (unitT t n), .int .i64 1]) ∧ Below w.heap.size w w' := by
  have HU : Hid (unitT t n = if n = 0 then 1 else if n % 2 = 0 then max t (-t) else t) := rfl
  have hneg : IntKind.i64.wrap (-t) = -t := IntWalk.i64_in _ (by omega)
  have hmod : n.tmod 2 = n % 2 := Int.tmod_eq_emod_of_nonneg h.2
  generalize unitT t n = u at HU ⊢
  by_cases h0 : n = 0
  · obtain rfl : u = 1 := by rw [HU.out, if_pos h0]
    subst h0
    clear HU h hmod
    go_enter Try.func36, Try.ntmps36
    go_wp2_with fail
    exact bodyPost_ret (v := .agg #[.int .i64 1, .int .i64 1]) (by simp [results, Try.results36, go_sem, *]) rfl ⟨rfl, by repeat (first | exact Below.refl _ _ | refine Below.setCell ?_ (by simp) _ | refine Below.alloc ?_ (Nat.le_refl _) _ | refine Below.alloc ?_ (by simp) _)⟩
  have hn0 : (n == 0) = false := by simpa using h0
  cases h2 : (n % 2 == 0)
  · have : ¬ n % 2 = 0 := by simpa using h2
    obtain rfl : u = t := by rw [HU.out, if_neg h0, if_neg this]
    clear HU h h0 this
    go_enter Try.func36, Try.ntmps36
    go_wp2_with fail
    exact bodyPost_ret (v := .agg #[.int .i64 u, .int .i64 1]) (by simp [results, Try.results36, go_sem, *]) rfl ⟨rfl, by repeat (first | exact Below.refl _ _ | refine Below.setCell ?_ (by simp) _ | refine Below.alloc ?_ (Nat.le_refl _) _ | refine Below.alloc ?_ (by simp) _)⟩
  · have : n % 2 = 0 := by simpa using h2
    obtain rfl : u = max t (-t) := by rw [HU.out, if_neg h0, if_pos this]
    clear HU h h0 this
    go_enter Try.func36, Try.ntmps36
    go_wp2_with fail
    exact bodyPost_ret (v := .agg #[.int .i64 (max t (-t)), .int .i64 1]) (by simp [results, Try.results36, go_sem, *]) rfl ⟨rfl, by repeat (first | exact Below.refl _ _ | refine Below.setCell ?_ (by simp) _ | refine Below.alloc ?_ (Nat.le_refl _) _ | refine Below.alloc ?_ (by simp) _)⟩

end Go.Proofs.Ytfhmhkbjcccejaa

namespace Go.Proofs.Ytfhmhkbjcccejaa
open Go.RowKit

theorem pow_pow_lt {a b p q i j : Nat} (h1 : a = 2 ^ p) (h2 : b = 2 ^ q) (h : p * i < q * j) : a ^ i < b ^ j := by
  subst h1 h2
  rw [← Nat.pow_mul, ← Nat.pow_mul]
  exact Nat.pow_lt_pow_right (by decide) h

theorem pow_small_lt {a k : Nat} (ha : a ≤ 1152921504606846976) (hk : k ≤ 60) : a ^ k < W ^ 1000 := by
  have h1 : a ^ k ≤ 1152921504606846976 ^ k := Nat.pow_le_pow_left ha k
  have h2 : 1152921504606846976 ^ k ≤ 1152921504606846976 ^ 60 := Nat.pow_le_pow_right (by decide) hk
  have e1 : (1152921504606846976 : Nat) = 2 ^ 60 := by decide
  have e2 : W = 2 ^ 32 := by rw [W_eq]
  have h3 : (1152921504606846976 : Nat) ^ 60 < W ^ 1000 := @pow_pow_lt 1152921504606846976 W 60 32 60 1000 e1 e2 (by decide)
  exact Nat.lt_of_le_of_lt (Nat.le_trans h1 h2) h3

theorem pow_lim {x : Rat} (h : vld x.num (x.den : Int) = true) {k : Nat} (hk : k ≤ 60) : (x ^ k).num.natAbs < W ^ 1000 ∧ (x ^ k).den < W ^ 1000 := by
  obtain ⟨a1, a2⟩ := vld_le h
  rw [Rat.num_pow, Rat.den_pow, Int.natAbs_pow]
  exact ⟨pow_small_lt a1 hk, pow_small_lt a2 hk⟩

theorem two_pow_lt {a n : Nat} (ha : 2 ≤ a) (hn : 61 ≤ n) : 1152921504606846976 < a ^ n := by
  have h1 : 2 ^ n ≤ a ^ n := Nat.pow_le_pow_left ha n
  have h2 : 2 ^ 61 ≤ 2 ^ n := Nat.pow_le_pow_right (by decide) hn
  have e : (2 : Nat) ^ 61 = 2305843009213693952 := by decide
  omega

theorem far_full {x : Rat} {n : Nat} (hx : 2 ≤ x.den ∨ 2 ≤ x.num.natAbs) (hn : 61 ≤ n) : ¬ Fits (x ^ n) := by
  rintro ⟨h1, h2⟩
  rw [Rat.num_pow, Int.natAbs_pow, MaxN_eq] at h1
  rw [Rat.den_pow, MaxN_eq] at h2
  rcases hx with h | h
  · have := two_pow_lt h hn; omega
  · have := two_pow_lt h hn; omega

theorem sq_pow (t : Int) (h : -1 ≤ t ∧ t ≤ 1) (n : Nat) (hn : n ≠ 0) : t ^ n = if n % 2 = 0 then max t (-t) else t := by
  have h3 : t = -1 ∨ t = 0 ∨ t = 1 := by omega
  have hd := Nat.div_add_mod n 2
  rcases h3 with rfl | rfl | rfl
  · have e : (-1 : Int) ^ n = (-1) ^ (n % 2) := by
      conv => lhs; rw [← hd]
      rw [Int.pow_add, Int.pow_mul]
      have : ((-1 : Int) ^ 2) = 1 := by decide
      rw [this, Int.one_pow, Int.one_mul]
    rw [e]
    rcases Nat.mod_two_eq_zero_or_one n with h0 | h0 <;> rw [h0] <;> decide
  · rw [Int.zero_pow hn]
    split <;> decide
  · rw [Int.one_pow]
    split <;> decide

theorem unitT_pow (t : Int) (h : -1 ≤ t ∧ t ≤ 1) (n : Nat) : unitT t (n : Int) = t ^ n := by
  unfold unitT
  by_cases h0 : n = 0
  · subst h0
    simp
  · rw [if_neg (by omega), sq_pow t h n h0]
    by_cases h2 : n % 2 = 0
    · rw [if_pos (by omega), if_pos h2]
    · rw [if_neg (by omega), if_neg h2]

theorem unit_fits {x : Rat} (hd : x.den = 1) (h : -1 ≤ x.num ∧ x.num ≤ 1) (n : Nat) : outT (x ^ n) = (unitT x.num (n : Int), 1, 0) := by
  have e1 : (x ^ n).num = unitT x.num (n : Int) := by rw [Rat.num_pow, unitT_pow _ h]
  have e2 : (x ^ n).den = 1 := by rw [Rat.den_pow, hd, Nat.one_pow]
  have hb : -1 ≤ unitT x.num (n : Int) ∧ unitT x.num (n : Int) ≤ 1 := by
    unfold unitT
    split
    · decide
    · split <;> omega
  have hf : Fits (x ^ n) := by
    refine ⟨?_, ?_⟩
    · rw [e1, MaxN_eq]; omega
    · rw [e2, MaxN_eq]; omega
  unfold outT
  rw [if_pos hf, e1, e2]
  rfl

/-- What num.Pow returns. -/
def powT (t l n : Int) : Int × Int × Int := if vld t l = false then (0, 0, 1) else if n < 0 ∨ 10000 < n then (0, 0, 6) else outT (fr t l ^ n.toNat)

end Go.Proofs.Ytfhmhkbjcccejaa

namespace Go.Proofs.Ytfhmhkbjcccejaa
open Go.RowKit

set_option maxRecDepth 100000 in
set_option maxHeartbeats 2000000 in
theorem pow_unit (t n : Int) (w : World) (h : vld t 1 = true) (hu : (-1 ≤ t ∧ t ≤ 1) ∧ 0 ≤ n) (g0 : decide (n < 0) = false) (g1 : decide (10000 < n) = false) (g2 : decide (-1 ≤ t) = true) (g3 : decide (t ≤ 1) = true) :
    Calls Try.prog 12 #[.agg #[.int .i64 t, .int .i64 1], .int .i64 n] w fun e w' => e = .returned (.tuple #[.agg #[.int .i64 (unitT t n), .int .i64 1], .int .i64 0]) ∧ Below w.heap.size w w' := by
  have HV : Hid (∀ wx, Calls Try.prog 35 #[.agg #[.int .i64 t, .int .i64 1]] wx fun e w' => e = .returned (.bool true) ∧ Below wx.heap.size wx w') := fun wx => by
    have := valid_any t 1 wx
    rw [h] at this
    exact this
  have HU : Hid (∀ wx, Calls Try.prog 36 #[.agg #[.int .i64 t, .int .i64 1], .int .i64 n] wx fun e w' => e = .returned (.agg #[.int .i64 (unitT t n), .int .i64 1]) ∧ Below wx.heap.size wx w') := fun wx => unit_any t n wx hu
  generalize unitT t n = u at HU ⊢
  clear h hu
  go_enter Try.func12, Try.ntmps12
  go_upto_region 1 with fail
  obtain ⟨X, hX, hwX, hz, k0, k1, hW⟩ := boxes2 w (.int .i64 t) (.int .i64 1) (.int .i64 0) (.int .i64 0)
  rw [hX]
  clear hX
  have H0 : Hid (w.heap.size < X.heap.size) := (by omega : w.heap.size < X.heap.size)
  clear hz
  go_wp2_with fail
  (with_reducible refine (HV.out X).mono ?_)
  rintro e w1 ⟨rfl, hB1⟩
  have l0 := (hB1.cell (p := ⟨w.heap.size, 0, none⟩) H0.out).trans k0
  have l1 := (hB1.cell (p := ⟨w.heap.size, 1, none⟩) H0.out).trans k1
  have R1 := Lib.hid hB1
  clear k0 k1 hB1
  go_wp2_with fail
  (with_reducible refine (HU.out w1).mono ?_)
  rintro e w2 ⟨rfl, hB2⟩
  have R2 := below_trans_same R1.out hB2
  have B2 := hwX.trans (R2.mono hwX.size)
  obtain ⟨⟨c1, c2, c3, c4⟩, c5, c6, c7⟩ := hW.keep R2
  clear l0 l1 hB2
  go_wp2_with fail
  exact bodyPost_ret (v := .tuple #[.agg #[.int .i64 u, .int .i64 1], .int .i64 0]) (by simp [results, Try.results12, go_sem, *]) rfl ⟨rfl, (B2.setCell (by show w.heap.size ≤ w.heap.size + 1; omega) _).setCell (by show w.heap.size ≤ w.heap.size + 1; omega) _⟩

end Go.Proofs.Ytfhmhkbjcccejaa

namespace Go.Proofs.Ytfhmhkbjcccejaa
open Go.RowKit

theorem Wr.far {g k T : Nat} {w : World} (h : Wr g T w) (hk : g ≠ k) (o : Nat) (u : Value) : Wr g T (w.setCell ⟨k, o, none⟩ u) := by
  obtain ⟨⟨p, q, h1, h2⟩, f1, f2, hx⟩ := h
  have e : (w.setCell ⟨k, o, none⟩ u).heap[g]? = w.heap[g]? := Below.heap_setCell _ _ _ _ hk
  exact ⟨⟨p, q, (World.cell?_of_block (w := w) (a := ⟨g, 0, none⟩) e).trans h1, (World.cell?_of_block (w := w) (a := ⟨g, 1, none⟩) e).trans h2⟩,
    (World.frozen?_of_block (w := w) (a := ⟨g, 0, none⟩) e).trans f1, (World.frozen?_of_block (w := w) (a := ⟨g, 1, none⟩) e).trans f2, hx.set _ _ _⟩

/-- The loop's state. -/
def PowL (w : World) (base g6 g7 : Nat) (y x : Rat) (wr : World) : Prop :=
  Below w.heap.size w wr ∧ w.heap.size + 1 < base ∧ g6 ≠ g7 ∧ BV base wr (.pointer (some ⟨g6, 0, none⟩)) y ∧ BV base wr (.pointer (some ⟨g7, 0, none⟩)) x ∧ Wr (w.heap.size + 1) 23 wr
theorem ptr_inj {a b : Nat} (h : (Value.pointer (some ⟨a, 0, none⟩)) = .pointer (some ⟨b, 0, none⟩)) : a = b := by
  injection h with h
  injection h with h
  injection h
theorem BV.open_ {base g : Nat} {w : World} {x : Rat} (h : BV base w (.pointer (some ⟨g, 0, none⟩)) x) : base ≤ g ∧ Wr4 g 57 w ∧ ∃ A n c B m d, B4 g (.bool (decide (x.num < 0))) (.slice A n c) (.bool false) (.slice B m d) w ∧ D w (.slice A n c) x.num.natAbs ∧ D w (.slice B m d) x.den := by
  obtain ⟨g', a, b, c, d, e, h1, h2, h3, A, n, ca, B, m, cb, e2, h4, h5⟩ := h
  obtain rfl := ptr_inj e
  injection e2 with e2
  injection e2 with e2
  simp only [List.cons.injEq, and_true] at e2
  obtain ⟨rfl, rfl, rfl, rfl⟩ := e2
  exact ⟨h1, h2, A, n, ca, B, m, cb, h3, h4, h5⟩
theorem PowL.next {w wr w2 : World} {base g6 g7 : Nat} {y z x : Rat} (h : PowL w base g6 g7 y x wr) (hb : Below wr.heap.size wr w2) {A B : Option Addr} {n c m d : Nat} (h1 : D w2 (.slice A n c) z.num.natAbs) (h2 : D w2 (.slice B m d) z.den) :
    PowL w base g6 g7 z x (set4 w2 g6 (.bool (decide (z.num < 0))) (.slice A n c) (.bool false) (.slice B m d)) := by
  obtain ⟨k1, k2, k3, k4, k5, k6⟩ := h
  obtain ⟨j1, j2, -⟩ := k4.open_
  have hw := j2.keep hb
  have hg : w.heap.size + 1 ≠ g6 := by omega
  exact ⟨set4_below (below_trans_same k1 hb) (by omega) _ _ _ _, k2, k3, BV.made j1 hw ⟨A, n, c, B, m, d, rfl, h1, h2⟩, (k5.keep hb).set_4 hw (fun e => k3 (ptr_inj e).symm) _ _ _ _,
    ((((k6.keep hb).far hg _ _).far hg _ _).far hg _ _).far hg _ _⟩
theorem PowL.made {w w1 wx : World} {t l : Int} {y x : Rat} {b : Nat → Bool} {v : Nat → Value} {g6 g7 : Nat} (h : JP w1 t l y x b v wx) (hw : Below w.heap.size w w1) (hW : Wr (w.heap.size + 1) 23 w1) (hb : ∀ i, i < 8 → b i = true) (e6 : v 6 = .pointer (some ⟨g6, 0, none⟩)) (e7 : v 7 = .pointer (some ⟨g7, 0, none⟩)) :
    PowL w w1.heap.size g6 g7 y x wx := by
  refine ⟨hw.trans (h.below.mono hw.size), ?_, ?_, by rw [← e6]; exact h.f6 (hb 6 (by decide)), by rw [← e7]; exact h.f7 (hb 7 (by decide)), hW.keep h.below⟩
  · obtain ⟨_, _, _, cs, fr, hc⟩ := hW
    exact lt_of_heap hc
  · intro e
    exact h.f45 (hb 4 (by decide)) (hb 5 (by decide)) (by rw [e6, e7, e])
theorem JP.ptr {w1 wx : World} {t l : Int} {y x : Rat} {b : Nat → Bool} {v : Nat → Value} (h : JP w1 t l y x b v wx) (hb : ∀ i, i < 8 → b i = true) : ∃ g6 g7, v 6 = .pointer (some ⟨g6, 0, none⟩) ∧ v 7 = .pointer (some ⟨g7, 0, none⟩) := by
  obtain ⟨g6, e6, -⟩ := h.f4 (hb 4 (by decide))
  obtain ⟨g7, e7, -⟩ := h.f5 (hb 5 (by decide))
  exact ⟨g6, g7, e6, e7⟩

set_option maxRecDepth 100000 in
set_option maxHeartbeats 4000000 in
theorem pow_smallA (x : Rat) (f : Nat → Rat) (N : Nat) (w : World) (hf0 : f 0 = 1) (hfs : ∀ k, f (k + 1) = f k * x) (hlim : ∀ k, k ≤ 60 → (f k).num.natAbs < W ^ 1000 ∧ (f k).den < W ^ 1000)
    (h : vld x.num (x.den : Int) = true) (hN : N ≤ 60) (g0 : decide ((N : Int) < 0) = false) (g1 : decide (10000 < (N : Int)) = false) (g2 : ((x.den : Int) == 1) = false) (gN : decide (60 < (N : Int)) = false) :
    Calls Try.prog 12 #[.agg #[.int .i64 x.num, .int .i64 (x.den : Int)], .int .i64 (N : Int)] w fun e w' => e = .returned (outN (f N)) ∧ Below w.heap.size w w' := by
  have HV : Hid (∀ wx, Calls Try.prog 35 #[.agg #[.int .i64 x.num, .int .i64 (x.den : Int)]] wx fun e w' => e = .returned (.bool true) ∧ Below wx.heap.size wx w') := fun wx => by
    have := valid_any x.num (x.den : Int) wx
    rw [h] at this
    exact this
  have HO1 : Hid (∀ wx, Calls Try.prog 37 #[.agg #[.int .i64 1, .int .i64 1]] wx (RetR 1 wx)) := fun wx => of_any 1 wx (by decide) (by decide) (by decide)
  have HO2 : Hid (∀ wx, Calls Try.prog 37 #[.agg #[.int .i64 x.num, .int .i64 (x.den : Int)]] wx (RetR x wx)) := fun wx => of_any x wx (vld_num h).1 (vld_num h).2.1 (vld_num h).2.2
  have HM : Hid (∀ wx k A n c B m d A' n' c' B' m' d', k < N → D wx (.slice A n c) (f k).num.natAbs → D wx (.slice B m d) (f k).den → D wx (.slice A' n' c') x.num.natAbs → D wx (.slice B' m' d') x.den →
      Calls Try.prog 38 #[.agg #[.bool (decide ((f k).num < 0)), .slice A n c, .bool false, .slice B m d], .agg #[.bool (decide (x.num < 0)), .slice A' n' c', .bool false, .slice B' m' d']] wx (RetR (f (k + 1)) wx)) := fun wx k A n c B m d A' n' c' B' m' d' hk k1 k2 k3 k4 => by
    obtain ⟨a1, a2⟩ := vld_le h
    have e1 := k1.len (hlim k (by omega)).1
    have e2 := k2.len (hlim k (by omega)).2
    have e3 := len2 k3 a1
    have e4 := len2 k4 a2
    rw [hfs]
    exact mulR_any _ _ A B A' B' n c m d n' c' m' d' (f k) x wx ⟨rfl, k1, k2⟩ ⟨rfl, k3, k4⟩ (by omega) (by omega) (by omega) (by omega) (by omega) (by omega)
  obtain ⟨u1, u2, q, hout⟩ := outN_shape (f N)
  have HN : Hid (∀ wx A n c B m d, D wx (.slice A n c) (f N).num.natAbs → D wx (.slice B m d) (f N).den → Calls Try.prog 34 #[.agg #[.bool (decide ((f N).num < 0)), .slice A n c, .bool false, .slice B m d]] wx fun e w' => e = .returned (.tuple #[.agg #[.int .i64 u1, .int .i64 u2], .int .i64 q]) ∧ Below wx.heap.size wx w') := fun wx A n c B m d k1 k2 => by
    have e1 := k1.len (hlim N hN).1
    have e2 := k2.len (hlim N hN).2
    have := num_any (decide ((f N).num < 0)) A B n c m d (f N) wx ⟨rfl, k1, k2⟩ (by omega) (by omega)
    rw [hout] at this
    exact this
  rw [hout]
  have HF0 := Lib.hid hf0
  clear h hfs hlim hout hf0
  have HN60 := Lib.hid hN
  clear hN
  go_enter Try.func12, Try.ntmps12
  go_upto_region 1 with fail
  obtain ⟨X, hX, hwX, hz, k0, k1, hW⟩ := boxes2 w (.int .i64 x.num) (.int .i64 (x.den : Int)) (.int .i64 0) (.int .i64 0)
  rw [hX]
  clear hX
  have H0 : Hid (w.heap.size < X.heap.size) := (by omega : w.heap.size < X.heap.size)
  clear hz
  go_wp2_with fail
  (with_reducible refine (HV.out X).mono ?_)
  rintro e w1 ⟨rfl, hB1⟩
  have l0 := (hB1.cell (p := ⟨w.heap.size, 0, none⟩) H0.out).trans k0
  have l1 := (hB1.cell (p := ⟨w.heap.size, 1, none⟩) H0.out).trans k1
  have B1 := hwX.trans (hB1.mono hwX.size)
  have hW1 := hW.keep hB1
  have hlt : w.heap.size < w1.heap.size := Nat.lt_of_lt_of_le H0.out hB1.size
  clear k0 k1 hW H0 HV hB1 hwX
  go_upto_region 9 with fail
  have HB1 := Lib.hid B1
  have HW1 := Lib.hid hW1
  have L0 := Lib.hid l0
  have L1 := Lib.hid l1
  have HLT := Lib.hid hlt
  clear B1 hW1 l0 l1 hlt
  refine wp_region_inv3 [6, 7, 38, 39, 40, 41] (JP w1 x.num (x.den : Int) 1 x) (by kernel_rfl) (by kernel_rfl) (by kernel_rfl) ?_ ?_ ?_
  · exact JP.start
  · intro i b v wx o T' K ho hdep hb hJ hin hout hK hK'
    have hi : i < 8 := (Array.getElem?_eq_some_iff.1 ho).1
    have q38 := hin 38 (by decide)
    have q39 := hin 39 (by decide)
    have q40 := hin 40 (by decide)
    have q41 := hin 41 (by decide)
    have q6 := hin 6 (by decide)
    have q7 := hin 7 (by decide)
    have q2 : T'[2]? = some (.pointer (some ⟨w.heap.size, 0, none⟩)) := (hout 2 (by decide)).trans rfl
    have c0 := (hJ.below.cell (p := ⟨w.heap.size, 0, none⟩) HLT.out).trans L0.out
    have c1 := (hJ.below.cell (p := ⟨w.heap.size, 1, none⟩) HLT.out).trans L1.out
    clear hin hout
    have HJ := Lib.hid hJ
    have HD := Lib.hid hdep
    have HB := Lib.hid hb
    clear hJ hdep hb
    rcases (by omega : i = 0 ∨ i = 1 ∨ i = 2 ∨ i = 3 ∨ i = 4 ∨ i = 5 ∨ i = 6 ∨ i = 7) with rfl | rfl | rfl | rfl | rfl | rfl | rfl | rfl
    · obtain rfl := Option.some.inj ho
      clear ho hi c0 c1 q38 q39 q40 q41 q6 q7 q2
      go_simp
      exact hK 38 _ _ (by decide) HJ.out.put0
    · obtain rfl := Option.some.inj ho
      rw [HJ.out.f0 (HD.out ⟨0, .data⟩ (by simp) rfl)] at q38
      clear ho hi c0 c1 q39 q40 q41 q6 q7 q2
      go_simp
      (with_reducible refine (HO1.out _).mono ?_)
      rintro e w2 ⟨A, n, c, B, m, d, rfl, hD1, hD2, hB2⟩
      exact hK 39 _ _ (by decide) ((HJ.out.keep hB2).put1 ⟨A, n, c, B, m, d, rfl, hD1, hD2⟩)
    · obtain rfl := Option.some.inj ho
      clear ho hi q38 q39 q40 q41 q6 q7
      go_simp
      exact hK 40 _ _ (by decide) HJ.out.put2
    · obtain rfl := Option.some.inj ho
      rw [HJ.out.f2 (HD.out ⟨2, .data⟩ (by simp) rfl)] at q40
      clear ho hi c0 c1 q38 q39 q41 q6 q7 q2
      go_simp
      (with_reducible refine (HO2.out _).mono ?_)
      rintro e w2 ⟨A, n, c, B, m, d, rfl, hD1, hD2, hB2⟩
      exact hK 41 _ _ (by decide) ((HJ.out.keep hB2).put3 ⟨A, n, c, B, m, d, rfl, hD1, hD2⟩)
    · obtain rfl := Option.some.inj ho
      clear ho hi c0 c1 q38 q39 q40 q41 q6 q7 q2
      go_simp
      exact hK 6 _ _ (by decide) (HJ.out.put4 HB.out _ _ _ _)
    · obtain rfl := Option.some.inj ho
      clear ho hi c0 c1 q38 q39 q40 q41 q6 q7 q2
      go_simp
      exact hK 7 _ _ (by decide) (HJ.out.put5 HB.out _ _ _ _)
    · obtain rfl := Option.some.inj ho
      have d1 := HD.out ⟨1, .data⟩ (by simp) rfl
      have d4 := HD.out ⟨4, .data⟩ (by simp) rfl
      have d5 := HD.out ⟨5, .phase⟩ (by simp) rfl
      obtain ⟨g, eg, hg, hw⟩ := HJ.out.f4 d4
      obtain ⟨A, n, c, B, m, d, e39, -, -⟩ := HJ.out.f1 d1
      rw [eg] at q6
      rw [e39] at q39
      have HR := Lib.hid (HJ.out.put6 eg hg hw e39 d1 d4 d5)
      obtain ⟨⟨p1, p2, p3, p4, p5, p6, p7, p8⟩, r1, r2, r3, r4, r5⟩ := hw
      clear ho hi c0 c1 q38 q40 q41 q7 q2 eg e39 d1 d4 d5 hK
      go_simp
      exact hK' _ HR.out
    · obtain rfl := Option.some.inj ho
      have d3 := HD.out ⟨3, .data⟩ (by simp) rfl
      have d5 := HD.out ⟨5, .data⟩ (by simp) rfl
      have d4 := HD.out ⟨4, .phase⟩ (by simp) rfl
      obtain ⟨g, eg, hg, hw⟩ := HJ.out.f5 d5
      obtain ⟨A, n, c, B, m, d, e41, -, -⟩ := HJ.out.f3 d3
      rw [eg] at q7
      rw [e41] at q41
      have HR := Lib.hid (HJ.out.put7 eg hg hw e41 d3 d4 d5)
      obtain ⟨⟨p1, p2, p3, p4, p5, p6, p7, p8⟩, r1, r2, r3, r4, r5⟩ := hw
      clear ho hi c0 c1 q38 q39 q40 q6 q2 eg e41 d3 d4 d5 hK
      go_simp
      exact hK' _ HR.out
  · intro b v wx hall hJ
    have hall' : ∀ i, i < 8 → b i = true := hall
    obtain ⟨g6, g7, e6, e7⟩ := hJ.ptr hall'
    have HP := Lib.hid (PowL.made hJ HB1.out HW1.out hall' e6 e7)
    simp only [over, List.setIfInBounds_toArray, List.set_cons_zero, List.set_cons_succ, e6, e7]
    generalize v 38 = v38
    generalize v 39 = v39
    generalize v 40 = v40
    generalize v 41 = v41
    clear hall hall' hJ e6 e7 HO1 HO2 HB1 HW1 L0 L1 HLT
    generalize w1.heap.size = base at HP
    clear w1
    rw [← HF0.out] at HP
    clear HF0
    go_wp2_with fail
    go_loopw [43] (fun s wr => ∃ k : Nat, Hid (k ≤ N) ∧ s = .int .i64 (k : Int) ∧ PowL w base g6 g7 (f k) x wr) (fun s _ => N - (intOf s).toNat)
    case atStart => exact ⟨0, Nat.zero_le _, rfl, HP.out⟩
    case round =>
      obtain ⟨k, hk, rfl, hP⟩ := hrel
      obtain ⟨j1, j2, A, n, c, B, m, d, b4, D1, D2⟩ := hP.2.2.2.1.open_
      obtain ⟨i1, i2, A', n', c', B', m', d', b4', D1', D2'⟩ := hP.2.2.2.2.1.open_
      have HPk := Lib.hid hP
      have HDs := Lib.hid (And.intro D1 (And.intro D2 (And.intro D1' D2')))
      have HJ2 := Lib.hid j2
      clear hP D1 D2 D1' D2' HP i1 i2 j1 j2
      obtain ⟨a1, a2, a3, a4⟩ := b4
      obtain ⟨e1, e2, e3, e4⟩ := b4'
      by_cases hlt : k < N
      · have h60 : (k : Int) < 60 := by have := HN60.out; omega
        go_wp2_with fail
        (with_reducible refine (HM.out _ k A n c B m d A' n' c' B' m' d' hlt HDs.out.1 HDs.out.2.1 HDs.out.2.2.1 HDs.out.2.2.2).mono ?_)
        rintro e w2 ⟨A2, n2, c2, B2, m2, d2, rfl, hD1, hD2, hB2⟩
        have HQ := Lib.hid (HPk.out.next hB2 hD1 hD2)
        obtain ⟨⟨p1, p2, p3, p4, p5, p6, p7, p8⟩, r1, r2, r3, r4, r5⟩ := HJ2.out.keep hB2
        clear hB2 hD1 hD2 a1 a2 a3 a4 e1 e2 e3 e4
        go_wp2_with fail
        go_roundw
        case rel => exact ⟨k + 1, hlt, by go_num, HQ.out⟩
        case measure => simp [intOf]; omega
      · obtain rfl : k = N := by have := hk.out; omega
        go_wp2_with fail
        (with_reducible refine (HN.out _ A n c B m d HDs.out.1 HDs.out.2.1).mono ?_)
        rintro e w2 ⟨rfl, hB2⟩
        have B2 := below_trans_same HPk.out.1 hB2
        obtain ⟨⟨c1, c2, c3, c4⟩, c5, c6, c7⟩ := HPk.out.2.2.2.2.2.keep hB2
        clear hB2 a1 a2 a3 a4 e1 e2 e3 e4
        go_wp2_with fail
        exact bodyPost_ret (v := .tuple #[.agg #[.int .i64 u1, .int .i64 u2], .int .i64 q]) (by simp [results, Try.results12, go_sem, *]) rfl ⟨rfl, (B2.setCell (by show w.heap.size ≤ w.heap.size + 1; omega) _).setCell (by show w.heap.size ≤ w.heap.size + 1; omega) _⟩

set_option maxRecDepth 100000 in
set_option maxHeartbeats 4000000 in
theorem pow_smallB (x : Rat) (f : Nat → Rat) (N : Nat) (w : World) (hf0 : f 0 = 1) (hfs : ∀ k, f (k + 1) = f k * x) (hlim : ∀ k, k ≤ 60 → (f k).num.natAbs < W ^ 1000 ∧ (f k).den < W ^ 1000)
    (h : vld x.num (x.den : Int) = true) (hN : N ≤ 60) (g0 : decide ((N : Int) < 0) = false) (g1 : decide (10000 < (N : Int)) = false) (g2 : ((x.den : Int) == 1) = true) (g3 : decide (-1 ≤ x.num) = false) (gN : decide (60 < (N : Int)) = false) :
    Calls Try.prog 12 #[.agg #[.int .i64 x.num, .int .i64 (x.den : Int)], .int .i64 (N : Int)] w fun e w' => e = .returned (outN (f N)) ∧ Below w.heap.size w w' := by
  have HV : Hid (∀ wx, Calls Try.prog 35 #[.agg #[.int .i64 x.num, .int .i64 (x.den : Int)]] wx fun e w' => e = .returned (.bool true) ∧ Below wx.heap.size wx w') := fun wx => by
    have := valid_any x.num (x.den : Int) wx
    rw [h] at this
    exact this
  have HO1 : Hid (∀ wx, Calls Try.prog 37 #[.agg #[.int .i64 1, .int .i64 1]] wx (RetR 1 wx)) := fun wx => of_any 1 wx (by decide) (by decide) (by decide)
  have HO2 : Hid (∀ wx, Calls Try.prog 37 #[.agg #[.int .i64 x.num, .int .i64 (x.den : Int)]] wx (RetR x wx)) := fun wx => of_any x wx (vld_num h).1 (vld_num h).2.1 (vld_num h).2.2
  have HM : Hid (∀ wx k A n c B m d A' n' c' B' m' d', k < N → D wx (.slice A n c) (f k).num.natAbs → D wx (.slice B m d) (f k).den → D wx (.slice A' n' c') x.num.natAbs → D wx (.slice B' m' d') x.den →
      Calls Try.prog 38 #[.agg #[.bool (decide ((f k).num < 0)), .slice A n c, .bool false, .slice B m d], .agg #[.bool (decide (x.num < 0)), .slice A' n' c', .bool false, .slice B' m' d']] wx (RetR (f (k + 1)) wx)) := fun wx k A n c B m d A' n' c' B' m' d' hk k1 k2 k3 k4 => by
    obtain ⟨a1, a2⟩ := vld_le h
    have e1 := k1.len (hlim k (by omega)).1
    have e2 := k2.len (hlim k (by omega)).2
    have e3 := len2 k3 a1
    have e4 := len2 k4 a2
    rw [hfs]
    exact mulR_any _ _ A B A' B' n c m d n' c' m' d' (f k) x wx ⟨rfl, k1, k2⟩ ⟨rfl, k3, k4⟩ (by omega) (by omega) (by omega) (by omega) (by omega) (by omega)
  obtain ⟨u1, u2, q, hout⟩ := outN_shape (f N)
  have HN : Hid (∀ wx A n c B m d, D wx (.slice A n c) (f N).num.natAbs → D wx (.slice B m d) (f N).den → Calls Try.prog 34 #[.agg #[.bool (decide ((f N).num < 0)), .slice A n c, .bool false, .slice B m d]] wx fun e w' => e = .returned (.tuple #[.agg #[.int .i64 u1, .int .i64 u2], .int .i64 q]) ∧ Below wx.heap.size wx w') := fun wx A n c B m d k1 k2 => by
    have e1 := k1.len (hlim N hN).1
    have e2 := k2.len (hlim N hN).2
    have := num_any (decide ((f N).num < 0)) A B n c m d (f N) wx ⟨rfl, k1, k2⟩ (by omega) (by omega)
    rw [hout] at this
    exact this
  rw [hout]
  have HF0 := Lib.hid hf0
  clear h hfs hlim hout hf0
  have HN60 := Lib.hid hN
  clear hN
  go_enter Try.func12, Try.ntmps12
  go_upto_region 1 with fail
  obtain ⟨X, hX, hwX, hz, k0, k1, hW⟩ := boxes2 w (.int .i64 x.num) (.int .i64 (x.den : Int)) (.int .i64 0) (.int .i64 0)
  rw [hX]
  clear hX
  have H0 : Hid (w.heap.size < X.heap.size) := (by omega : w.heap.size < X.heap.size)
  clear hz
  go_wp2_with fail
  (with_reducible refine (HV.out X).mono ?_)
  rintro e w1 ⟨rfl, hB1⟩
  have l0 := (hB1.cell (p := ⟨w.heap.size, 0, none⟩) H0.out).trans k0
  have l1 := (hB1.cell (p := ⟨w.heap.size, 1, none⟩) H0.out).trans k1
  have B1 := hwX.trans (hB1.mono hwX.size)
  have hW1 := hW.keep hB1
  have hlt : w.heap.size < w1.heap.size := Nat.lt_of_lt_of_le H0.out hB1.size
  clear k0 k1 hW H0 HV hB1 hwX
  go_upto_region 9 with fail
  have HB1 := Lib.hid B1
  have HW1 := Lib.hid hW1
  have L0 := Lib.hid l0
  have L1 := Lib.hid l1
  have HLT := Lib.hid hlt
  clear B1 hW1 l0 l1 hlt
  refine wp_region_inv3 [6, 7, 38, 39, 40, 41] (JP w1 x.num (x.den : Int) 1 x) (by kernel_rfl) (by kernel_rfl) (by kernel_rfl) ?_ ?_ ?_
  · exact JP.start
  · intro i b v wx o T' K ho hdep hb hJ hin hout hK hK'
    have hi : i < 8 := (Array.getElem?_eq_some_iff.1 ho).1
    have q38 := hin 38 (by decide)
    have q39 := hin 39 (by decide)
    have q40 := hin 40 (by decide)
    have q41 := hin 41 (by decide)
    have q6 := hin 6 (by decide)
    have q7 := hin 7 (by decide)
    have q2 : T'[2]? = some (.pointer (some ⟨w.heap.size, 0, none⟩)) := (hout 2 (by decide)).trans rfl
    have c0 := (hJ.below.cell (p := ⟨w.heap.size, 0, none⟩) HLT.out).trans L0.out
    have c1 := (hJ.below.cell (p := ⟨w.heap.size, 1, none⟩) HLT.out).trans L1.out
    clear hin hout
    have HJ := Lib.hid hJ
    have HD := Lib.hid hdep
    have HB := Lib.hid hb
    clear hJ hdep hb
    rcases (by omega : i = 0 ∨ i = 1 ∨ i = 2 ∨ i = 3 ∨ i = 4 ∨ i = 5 ∨ i = 6 ∨ i = 7) with rfl | rfl | rfl | rfl | rfl | rfl | rfl | rfl
    · obtain rfl := Option.some.inj ho
      clear ho hi c0 c1 q38 q39 q40 q41 q6 q7 q2
      go_simp
      exact hK 38 _ _ (by decide) HJ.out.put0
    · obtain rfl := Option.some.inj ho
      rw [HJ.out.f0 (HD.out ⟨0, .data⟩ (by simp) rfl)] at q38
      clear ho hi c0 c1 q39 q40 q41 q6 q7 q2
      go_simp
      (with_reducible refine (HO1.out _).mono ?_)
      rintro e w2 ⟨A, n, c, B, m, d, rfl, hD1, hD2, hB2⟩
      exact hK 39 _ _ (by decide) ((HJ.out.keep hB2).put1 ⟨A, n, c, B, m, d, rfl, hD1, hD2⟩)
    · obtain rfl := Option.some.inj ho
      clear ho hi q38 q39 q40 q41 q6 q7
      go_simp
      exact hK 40 _ _ (by decide) HJ.out.put2
    · obtain rfl := Option.some.inj ho
      rw [HJ.out.f2 (HD.out ⟨2, .data⟩ (by simp) rfl)] at q40
      clear ho hi c0 c1 q38 q39 q41 q6 q7 q2
      go_simp
      (with_reducible refine (HO2.out _).mono ?_)
      rintro e w2 ⟨A, n, c, B, m, d, rfl, hD1, hD2, hB2⟩
      exact hK 41 _ _ (by decide) ((HJ.out.keep hB2).put3 ⟨A, n, c, B, m, d, rfl, hD1, hD2⟩)
    · obtain rfl := Option.some.inj ho
      clear ho hi c0 c1 q38 q39 q40 q41 q6 q7 q2
      go_simp
      exact hK 6 _ _ (by decide) (HJ.out.put4 HB.out _ _ _ _)
    · obtain rfl := Option.some.inj ho
      clear ho hi c0 c1 q38 q39 q40 q41 q6 q7 q2
      go_simp
      exact hK 7 _ _ (by decide) (HJ.out.put5 HB.out _ _ _ _)
    · obtain rfl := Option.some.inj ho
      have d1 := HD.out ⟨1, .data⟩ (by simp) rfl
      have d4 := HD.out ⟨4, .data⟩ (by simp) rfl
      have d5 := HD.out ⟨5, .phase⟩ (by simp) rfl
      obtain ⟨g, eg, hg, hw⟩ := HJ.out.f4 d4
      obtain ⟨A, n, c, B, m, d, e39, -, -⟩ := HJ.out.f1 d1
      rw [eg] at q6
      rw [e39] at q39
      have HR := Lib.hid (HJ.out.put6 eg hg hw e39 d1 d4 d5)
      obtain ⟨⟨p1, p2, p3, p4, p5, p6, p7, p8⟩, r1, r2, r3, r4, r5⟩ := hw
      clear ho hi c0 c1 q38 q40 q41 q7 q2 eg e39 d1 d4 d5 hK
      go_simp
      exact hK' _ HR.out
    · obtain rfl := Option.some.inj ho
      have d3 := HD.out ⟨3, .data⟩ (by simp) rfl
      have d5 := HD.out ⟨5, .data⟩ (by simp) rfl
      have d4 := HD.out ⟨4, .phase⟩ (by simp) rfl
      obtain ⟨g, eg, hg, hw⟩ := HJ.out.f5 d5
      obtain ⟨A, n, c, B, m, d, e41, -, -⟩ := HJ.out.f3 d3
      rw [eg] at q7
      rw [e41] at q41
      have HR := Lib.hid (HJ.out.put7 eg hg hw e41 d3 d4 d5)
      obtain ⟨⟨p1, p2, p3, p4, p5, p6, p7, p8⟩, r1, r2, r3, r4, r5⟩ := hw
      clear ho hi c0 c1 q38 q39 q40 q6 q2 eg e41 d3 d4 d5 hK
      go_simp
      exact hK' _ HR.out
  · intro b v wx hall hJ
    have hall' : ∀ i, i < 8 → b i = true := hall
    obtain ⟨g6, g7, e6, e7⟩ := hJ.ptr hall'
    have HP := Lib.hid (PowL.made hJ HB1.out HW1.out hall' e6 e7)
    simp only [over, List.setIfInBounds_toArray, List.set_cons_zero, List.set_cons_succ, e6, e7]
    generalize v 38 = v38
    generalize v 39 = v39
    generalize v 40 = v40
    generalize v 41 = v41
    clear hall hall' hJ e6 e7 HO1 HO2 HB1 HW1 L0 L1 HLT
    generalize w1.heap.size = base at HP
    clear w1
    rw [← HF0.out] at HP
    clear HF0
    go_wp2_with fail
    go_loopw [43] (fun s wr => ∃ k : Nat, Hid (k ≤ N) ∧ s = .int .i64 (k : Int) ∧ PowL w base g6 g7 (f k) x wr) (fun s _ => N - (intOf s).toNat)
    case atStart => exact ⟨0, Nat.zero_le _, rfl, HP.out⟩
    case round =>
      obtain ⟨k, hk, rfl, hP⟩ := hrel
      obtain ⟨j1, j2, A, n, c, B, m, d, b4, D1, D2⟩ := hP.2.2.2.1.open_
      obtain ⟨i1, i2, A', n', c', B', m', d', b4', D1', D2'⟩ := hP.2.2.2.2.1.open_
      have HPk := Lib.hid hP
      have HDs := Lib.hid (And.intro D1 (And.intro D2 (And.intro D1' D2')))
      have HJ2 := Lib.hid j2
      clear hP D1 D2 D1' D2' HP i1 i2 j1 j2
      obtain ⟨a1, a2, a3, a4⟩ := b4
      obtain ⟨e1, e2, e3, e4⟩ := b4'
      by_cases hlt : k < N
      · have h60 : (k : Int) < 60 := by have := HN60.out; omega
        go_wp2_with fail
        (with_reducible refine (HM.out _ k A n c B m d A' n' c' B' m' d' hlt HDs.out.1 HDs.out.2.1 HDs.out.2.2.1 HDs.out.2.2.2).mono ?_)
        rintro e w2 ⟨A2, n2, c2, B2, m2, d2, rfl, hD1, hD2, hB2⟩
        have HQ := Lib.hid (HPk.out.next hB2 hD1 hD2)
        obtain ⟨⟨p1, p2, p3, p4, p5, p6, p7, p8⟩, r1, r2, r3, r4, r5⟩ := HJ2.out.keep hB2
        clear hB2 hD1 hD2 a1 a2 a3 a4 e1 e2 e3 e4
        go_wp2_with fail
        go_roundw
        case rel => exact ⟨k + 1, hlt, by go_num, HQ.out⟩
        case measure => simp [intOf]; omega
      · obtain rfl : k = N := by have := hk.out; omega
        go_wp2_with fail
        (with_reducible refine (HN.out _ A n c B m d HDs.out.1 HDs.out.2.1).mono ?_)
        rintro e w2 ⟨rfl, hB2⟩
        have B2 := below_trans_same HPk.out.1 hB2
        obtain ⟨⟨c1, c2, c3, c4⟩, c5, c6, c7⟩ := HPk.out.2.2.2.2.2.keep hB2
        clear hB2 a1 a2 a3 a4 e1 e2 e3 e4
        go_wp2_with fail
        exact bodyPost_ret (v := .tuple #[.agg #[.int .i64 u1, .int .i64 u2], .int .i64 q]) (by simp [results, Try.results12, go_sem, *]) rfl ⟨rfl, (B2.setCell (by show w.heap.size ≤ w.heap.size + 1; omega) _).setCell (by show w.heap.size ≤ w.heap.size + 1; omega) _⟩

set_option maxRecDepth 100000 in
set_option maxHeartbeats 4000000 in
theorem pow_smallC (x : Rat) (f : Nat → Rat) (N : Nat) (w : World) (hf0 : f 0 = 1) (hfs : ∀ k, f (k + 1) = f k * x) (hlim : ∀ k, k ≤ 60 → (f k).num.natAbs < W ^ 1000 ∧ (f k).den < W ^ 1000)
    (h : vld x.num (x.den : Int) = true) (hN : N ≤ 60) (g0 : decide ((N : Int) < 0) = false) (g1 : decide (10000 < (N : Int)) = false) (g2 : ((x.den : Int) == 1) = true) (g3 : decide (-1 ≤ x.num) = true) (g4 : decide (x.num ≤ 1) = false) (gN : decide (60 < (N : Int)) = false) :
    Calls Try.prog 12 #[.agg #[.int .i64 x.num, .int .i64 (x.den : Int)], .int .i64 (N : Int)] w fun e w' => e = .returned (outN (f N)) ∧ Below w.heap.size w w' := by
  have HV : Hid (∀ wx, Calls Try.prog 35 #[.agg #[.int .i64 x.num, .int .i64 (x.den : Int)]] wx fun e w' => e = .returned (.bool true) ∧ Below wx.heap.size wx w') := fun wx => by
    have := valid_any x.num (x.den : Int) wx
    rw [h] at this
    exact this
  have HO1 : Hid (∀ wx, Calls Try.prog 37 #[.agg #[.int .i64 1, .int .i64 1]] wx (RetR 1 wx)) := fun wx => of_any 1 wx (by decide) (by decide) (by decide)
  have HO2 : Hid (∀ wx, Calls Try.prog 37 #[.agg #[.int .i64 x.num, .int .i64 (x.den : Int)]] wx (RetR x wx)) := fun wx => of_any x wx (vld_num h).1 (vld_num h).2.1 (vld_num h).2.2
  have HM : Hid (∀ wx k A n c B m d A' n' c' B' m' d', k < N → D wx (.slice A n c) (f k).num.natAbs → D wx (.slice B m d) (f k).den → D wx (.slice A' n' c') x.num.natAbs → D wx (.slice B' m' d') x.den →
      Calls Try.prog 38 #[.agg #[.bool (decide ((f k).num < 0)), .slice A n c, .bool false, .slice B m d], .agg #[.bool (decide (x.num < 0)), .slice A' n' c', .bool false, .slice B' m' d']] wx (RetR (f (k + 1)) wx)) := fun wx k A n c B m d A' n' c' B' m' d' hk k1 k2 k3 k4 => by
    obtain ⟨a1, a2⟩ := vld_le h
    have e1 := k1.len (hlim k (by omega)).1
    have e2 := k2.len (hlim k (by omega)).2
    have e3 := len2 k3 a1
    have e4 := len2 k4 a2
    rw [hfs]
    exact mulR_any _ _ A B A' B' n c m d n' c' m' d' (f k) x wx ⟨rfl, k1, k2⟩ ⟨rfl, k3, k4⟩ (by omega) (by omega) (by omega) (by omega) (by omega) (by omega)
  obtain ⟨u1, u2, q, hout⟩ := outN_shape (f N)
  have HN : Hid (∀ wx A n c B m d, D wx (.slice A n c) (f N).num.natAbs → D wx (.slice B m d) (f N).den → Calls Try.prog 34 #[.agg #[.bool (decide ((f N).num < 0)), .slice A n c, .bool false, .slice B m d]] wx fun e w' => e = .returned (.tuple #[.agg #[.int .i64 u1, .int .i64 u2], .int .i64 q]) ∧ Below wx.heap.size wx w') := fun wx A n c B m d k1 k2 => by
    have e1 := k1.len (hlim N hN).1
    have e2 := k2.len (hlim N hN).2
    have := num_any (decide ((f N).num < 0)) A B n c m d (f N) wx ⟨rfl, k1, k2⟩ (by omega) (by omega)
    rw [hout] at this
    exact this
  rw [hout]
  have HF0 := Lib.hid hf0
  clear h hfs hlim hout hf0
  have HN60 := Lib.hid hN
  clear hN
  go_enter Try.func12, Try.ntmps12
  go_upto_region 1 with fail
  obtain ⟨X, hX, hwX, hz, k0, k1, hW⟩ := boxes2 w (.int .i64 x.num) (.int .i64 (x.den : Int)) (.int .i64 0) (.int .i64 0)
  rw [hX]
  clear hX
  have H0 : Hid (w.heap.size < X.heap.size) := (by omega : w.heap.size < X.heap.size)
  clear hz
  go_wp2_with fail
  (with_reducible refine (HV.out X).mono ?_)
  rintro e w1 ⟨rfl, hB1⟩
  have l0 := (hB1.cell (p := ⟨w.heap.size, 0, none⟩) H0.out).trans k0
  have l1 := (hB1.cell (p := ⟨w.heap.size, 1, none⟩) H0.out).trans k1
  have B1 := hwX.trans (hB1.mono hwX.size)
  have hW1 := hW.keep hB1
  have hlt : w.heap.size < w1.heap.size := Nat.lt_of_lt_of_le H0.out hB1.size
  clear k0 k1 hW H0 HV hB1 hwX
  go_upto_region 9 with fail
  have HB1 := Lib.hid B1
  have HW1 := Lib.hid hW1
  have L0 := Lib.hid l0
  have L1 := Lib.hid l1
  have HLT := Lib.hid hlt
  clear B1 hW1 l0 l1 hlt
  refine wp_region_inv3 [6, 7, 38, 39, 40, 41] (JP w1 x.num (x.den : Int) 1 x) (by kernel_rfl) (by kernel_rfl) (by kernel_rfl) ?_ ?_ ?_
  · exact JP.start
  · intro i b v wx o T' K ho hdep hb hJ hin hout hK hK'
    have hi : i < 8 := (Array.getElem?_eq_some_iff.1 ho).1
    have q38 := hin 38 (by decide)
    have q39 := hin 39 (by decide)
    have q40 := hin 40 (by decide)
    have q41 := hin 41 (by decide)
    have q6 := hin 6 (by decide)
    have q7 := hin 7 (by decide)
    have q2 : T'[2]? = some (.pointer (some ⟨w.heap.size, 0, none⟩)) := (hout 2 (by decide)).trans rfl
    have c0 := (hJ.below.cell (p := ⟨w.heap.size, 0, none⟩) HLT.out).trans L0.out
    have c1 := (hJ.below.cell (p := ⟨w.heap.size, 1, none⟩) HLT.out).trans L1.out
    clear hin hout
    have HJ := Lib.hid hJ
    have HD := Lib.hid hdep
    have HB := Lib.hid hb
    clear hJ hdep hb
    rcases (by omega : i = 0 ∨ i = 1 ∨ i = 2 ∨ i = 3 ∨ i = 4 ∨ i = 5 ∨ i = 6 ∨ i = 7) with rfl | rfl | rfl | rfl | rfl | rfl | rfl | rfl
    · obtain rfl := Option.some.inj ho
      clear ho hi c0 c1 q38 q39 q40 q41 q6 q7 q2
      go_simp
      exact hK 38 _ _ (by decide) HJ.out.put0
    · obtain rfl := Option.some.inj ho
      rw [HJ.out.f0 (HD.out ⟨0, .data⟩ (by simp) rfl)] at q38
      clear ho hi c0 c1 q39 q40 q41 q6 q7 q2
      go_simp
      (with_reducible refine (HO1.out _).mono ?_)
      rintro e w2 ⟨A, n, c, B, m, d, rfl, hD1, hD2, hB2⟩
      exact hK 39 _ _ (by decide) ((HJ.out.keep hB2).put1 ⟨A, n, c, B, m, d, rfl, hD1, hD2⟩)
    · obtain rfl := Option.some.inj ho
      clear ho hi q38 q39 q40 q41 q6 q7
      go_simp
      exact hK 40 _ _ (by decide) HJ.out.put2
    · obtain rfl := Option.some.inj ho
      rw [HJ.out.f2 (HD.out ⟨2, .data⟩ (by simp) rfl)] at q40
      clear ho hi c0 c1 q38 q39 q41 q6 q7 q2
      go_simp
      (with_reducible refine (HO2.out _).mono ?_)
      rintro e w2 ⟨A, n, c, B, m, d, rfl, hD1, hD2, hB2⟩
      exact hK 41 _ _ (by decide) ((HJ.out.keep hB2).put3 ⟨A, n, c, B, m, d, rfl, hD1, hD2⟩)
    · obtain rfl := Option.some.inj ho
      clear ho hi c0 c1 q38 q39 q40 q41 q6 q7 q2
      go_simp
      exact hK 6 _ _ (by decide) (HJ.out.put4 HB.out _ _ _ _)
    · obtain rfl := Option.some.inj ho
      clear ho hi c0 c1 q38 q39 q40 q41 q6 q7 q2
      go_simp
      exact hK 7 _ _ (by decide) (HJ.out.put5 HB.out _ _ _ _)
    · obtain rfl := Option.some.inj ho
      have d1 := HD.out ⟨1, .data⟩ (by simp) rfl
      have d4 := HD.out ⟨4, .data⟩ (by simp) rfl
      have d5 := HD.out ⟨5, .phase⟩ (by simp) rfl
      obtain ⟨g, eg, hg, hw⟩ := HJ.out.f4 d4
      obtain ⟨A, n, c, B, m, d, e39, -, -⟩ := HJ.out.f1 d1
      rw [eg] at q6
      rw [e39] at q39
      have HR := Lib.hid (HJ.out.put6 eg hg hw e39 d1 d4 d5)
      obtain ⟨⟨p1, p2, p3, p4, p5, p6, p7, p8⟩, r1, r2, r3, r4, r5⟩ := hw
      clear ho hi c0 c1 q38 q40 q41 q7 q2 eg e39 d1 d4 d5 hK
      go_simp
      exact hK' _ HR.out
    · obtain rfl := Option.some.inj ho
      have d3 := HD.out ⟨3, .data⟩ (by simp) rfl
      have d5 := HD.out ⟨5, .data⟩ (by simp) rfl
      have d4 := HD.out ⟨4, .phase⟩ (by simp) rfl
      obtain ⟨g, eg, hg, hw⟩ := HJ.out.f5 d5
      obtain ⟨A, n, c, B, m, d, e41, -, -⟩ := HJ.out.f3 d3
      rw [eg] at q7
      rw [e41] at q41
      have HR := Lib.hid (HJ.out.put7 eg hg hw e41 d3 d4 d5)
      obtain ⟨⟨p1, p2, p3, p4, p5, p6, p7, p8⟩, r1, r2, r3, r4, r5⟩ := hw
      clear ho hi c0 c1 q38 q39 q40 q6 q2 eg e41 d3 d4 d5 hK
      go_simp
      exact hK' _ HR.out
  · intro b v wx hall hJ
    have hall' : ∀ i, i < 8 → b i = true := hall
    obtain ⟨g6, g7, e6, e7⟩ := hJ.ptr hall'
    have HP := Lib.hid (PowL.made hJ HB1.out HW1.out hall' e6 e7)
    simp only [over, List.setIfInBounds_toArray, List.set_cons_zero, List.set_cons_succ, e6, e7]
    generalize v 38 = v38
    generalize v 39 = v39
    generalize v 40 = v40
    generalize v 41 = v41
    clear hall hall' hJ e6 e7 HO1 HO2 HB1 HW1 L0 L1 HLT
    generalize w1.heap.size = base at HP
    clear w1
    rw [← HF0.out] at HP
    clear HF0
    go_wp2_with fail
    go_loopw [43] (fun s wr => ∃ k : Nat, Hid (k ≤ N) ∧ s = .int .i64 (k : Int) ∧ PowL w base g6 g7 (f k) x wr) (fun s _ => N - (intOf s).toNat)
    case atStart => exact ⟨0, Nat.zero_le _, rfl, HP.out⟩
    case round =>
      obtain ⟨k, hk, rfl, hP⟩ := hrel
      obtain ⟨j1, j2, A, n, c, B, m, d, b4, D1, D2⟩ := hP.2.2.2.1.open_
      obtain ⟨i1, i2, A', n', c', B', m', d', b4', D1', D2'⟩ := hP.2.2.2.2.1.open_
      have HPk := Lib.hid hP
      have HDs := Lib.hid (And.intro D1 (And.intro D2 (And.intro D1' D2')))
      have HJ2 := Lib.hid j2
      clear hP D1 D2 D1' D2' HP i1 i2 j1 j2
      obtain ⟨a1, a2, a3, a4⟩ := b4
      obtain ⟨e1, e2, e3, e4⟩ := b4'
      by_cases hlt : k < N
      · have h60 : (k : Int) < 60 := by have := HN60.out; omega
        go_wp2_with fail
        (with_reducible refine (HM.out _ k A n c B m d A' n' c' B' m' d' hlt HDs.out.1 HDs.out.2.1 HDs.out.2.2.1 HDs.out.2.2.2).mono ?_)
        rintro e w2 ⟨A2, n2, c2, B2, m2, d2, rfl, hD1, hD2, hB2⟩
        have HQ := Lib.hid (HPk.out.next hB2 hD1 hD2)
        obtain ⟨⟨p1, p2, p3, p4, p5, p6, p7, p8⟩, r1, r2, r3, r4, r5⟩ := HJ2.out.keep hB2
        clear hB2 hD1 hD2 a1 a2 a3 a4 e1 e2 e3 e4
        go_wp2_with fail
        go_roundw
        case rel => exact ⟨k + 1, hlt, by go_num, HQ.out⟩
        case measure => simp [intOf]; omega
      · obtain rfl : k = N := by have := hk.out; omega
        go_wp2_with fail
        (with_reducible refine (HN.out _ A n c B m d HDs.out.1 HDs.out.2.1).mono ?_)
        rintro e w2 ⟨rfl, hB2⟩
        have B2 := below_trans_same HPk.out.1 hB2
        obtain ⟨⟨c1, c2, c3, c4⟩, c5, c6, c7⟩ := HPk.out.2.2.2.2.2.keep hB2
        clear hB2 a1 a2 a3 a4 e1 e2 e3 e4
        go_wp2_with fail
        exact bodyPost_ret (v := .tuple #[.agg #[.int .i64 u1, .int .i64 u2], .int .i64 q]) (by simp [results, Try.results12, go_sem, *]) rfl ⟨rfl, (B2.setCell (by show w.heap.size ≤ w.heap.size + 1; omega) _).setCell (by show w.heap.size ≤ w.heap.size + 1; omega) _⟩

end Go.Proofs.Ytfhmhkbjcccejaa

namespace Go.Proofs.Ytfhmhkbjcccejaa
open Go.RowKit

theorem awake1 : resT (fun x y => x + y) 1 3 1 6 = (1, 2, 0) := by decide +kernel
theorem awake2 : resT (fun x y => x + y) 1152921504606846976 1 1 1 = (0, 0, 3) := by decide +kernel

set_option maxRecDepth 100000 in
set_option maxHeartbeats 2000000 in
theorem awake_of (w : World) (HP : Hid (∀ wx, Calls Try.prog 12 #[.agg #[.int .i64 (-2), .int .i64 3], .int .i64 3] wx fun e w' => e = .returned (.tuple #[.agg #[.int .i64 (-8), .int .i64 27], .int .i64 0]) ∧ Below wx.heap.size wx w')) :
    Calls Try.prog 13 #[] w fun e w' => e = .returned (.bool true) ∧ Below w.heap.size w w' := by
  have HA : Hid (∀ wx, Calls Try.prog 24 #[.agg #[.int .i64 1, .int .i64 3], .agg #[.int .i64 1, .int .i64 6]] wx fun e w' => e = .returned (.tuple #[.agg #[.int .i64 1, .int .i64 2], .int .i64 0]) ∧ Below wx.heap.size wx w') := fun wx => by
    have := addNum_any 1 3 1 6 wx
    rw [awake1] at this
    exact this
  have HB : Hid (∀ wx, Calls Try.prog 24 #[.agg #[.int .i64 1152921504606846976, .int .i64 1], .agg #[.int .i64 1, .int .i64 1]] wx fun e w' => e = .returned (.tuple #[.agg #[.int .i64 0, .int .i64 0], .int .i64 3]) ∧ Below wx.heap.size wx w') := fun wx => by
    have := addNum_any 1152921504606846976 1 1 1 wx
    rw [awake2] at this
    exact this
  go_enter Try.func13, Try.ntmps13
  go_wp2_with fail
  (with_reducible refine (HA.out _).mono ?_)
  rintro e w1 ⟨rfl, hB1⟩
  go_wp2_with fail
  generalize hY : w1.alloc (.cells #[.int .i64 1, .int .i64 2] 23) = Y
  obtain ⟨hY1, hY2, k0, k1⟩ : w1.heap.size < Y.heap.size ∧ Below w1.heap.size w1 Y ∧ Y.cell? ⟨w1.heap.size, 0, none⟩ = some (.int .i64 1) ∧ Y.cell? ⟨w1.heap.size, 1, none⟩ = some (.int .i64 2) := by
    subst hY
    exact ⟨by simp, below_alloc w1 _, by simp [go_sem], by simp [go_sem]⟩
  clear hY
  (with_reducible refine (HP.out _).mono ?_)
  rintro e w2 ⟨rfl, hB2⟩
  have n0 := Lib.hid ((hB2.cell (p := ⟨w1.heap.size, 0, none⟩) hY1).trans k0)
  have n1 := Lib.hid ((hB2.cell (p := ⟨w1.heap.size, 1, none⟩) hY1).trans k1)
  have S2 := Lib.hid (stepB (stepB hB1 hY2) hB2)
  have hz2 := Lib.hid (Nat.lt_of_lt_of_le hY1 hB2.size)
  clear hY1 hY2 k0 k1 hB1 hB2
  go_wp2_with fail
  generalize hZ : w2.alloc (.cells #[.int .i64 (-8), .int .i64 27] 23) = Z
  obtain ⟨hZ1, hZ2, k0, k1⟩ : w2.heap.size < Z.heap.size ∧ Below w2.heap.size w2 Z ∧ Z.cell? ⟨w2.heap.size, 0, none⟩ = some (.int .i64 (-8)) ∧ Z.cell? ⟨w2.heap.size, 1, none⟩ = some (.int .i64 27) := by
    subst hZ
    exact ⟨by simp, below_alloc w2 _, by simp [go_sem], by simp [go_sem]⟩
  clear hZ
  (with_reducible refine (HB.out _).mono ?_)
  rintro e w3 ⟨rfl, hB3⟩
  have hW3 := stepB hZ2 hB3
  have m0 := (hB3.cell (p := ⟨w2.heap.size, 0, none⟩) hZ1).trans k0
  have m1 := (hB3.cell (p := ⟨w2.heap.size, 1, none⟩) hZ1).trans k1
  have o0 := (hW3.cell (p := ⟨w1.heap.size, 0, none⟩) hz2.out).trans n0.out
  have o1 := (hW3.cell (p := ⟨w1.heap.size, 1, none⟩) hz2.out).trans n1.out
  have S3 := Lib.hid (stepB S2.out hW3)
  have y1 := Nat.lt_of_lt_of_le hz2.out hW3.size
  have y2 := Nat.lt_of_lt_of_le hZ1 hB3.size
  have o2 : ∀ o ob, (w3.alloc ob).cell? ⟨w1.heap.size, o, none⟩ = w3.cell? ⟨w1.heap.size, o, none⟩ := fun o ob => (below_alloc w3 ob).cell (p := ⟨w1.heap.size, o, none⟩) y1
  have m2 : ∀ o ob, (w3.alloc ob).cell? ⟨w2.heap.size, o, none⟩ = w3.cell? ⟨w2.heap.size, o, none⟩ := fun o ob => (below_alloc w3 ob).cell (p := ⟨w2.heap.size, o, none⟩) y2
  clear y1 y2
  clear k0 k1 hZ1 hZ2 hW3 hB3
  go_wp2_with fail
  all_goals (go_ret; exact ⟨rfl, S3.out.alloc S3.out.size _⟩)

end Go.Proofs.Ytfhmhkbjcccejaa

namespace Go.Proofs.Ytfhmhkbjcccejaa
open Go.RowKit

theorem powT_bad {t l n : Int} (h : vld t l = false) : powT t l n = (0, 0, 1) := by unfold powT; rw [if_pos h]
theorem powT_range {t l n : Int} (h : vld t l = true) (hn : n < 0 ∨ 10000 < n) : powT t l n = (0, 0, 6) := by
  unfold powT
  rw [if_neg (by rw [h]; decide), if_pos hn]
theorem powT_ok (x : Rat) (n : Nat) (h : vld x.num (x.den : Int) = true) (hn : n ≤ 10000) : powT x.num x.den n = outT (x ^ n) := by
  unfold powT
  rw [if_neg (by rw [h]; decide), if_neg (by omega), fr_of, Int.toNat_natCast]
theorem powT_far (x : Rat) (n : Nat) (h : vld x.num (x.den : Int) = true) (hn : n ≤ 10000) (h61 : 61 ≤ n) (hx : 2 ≤ x.den ∨ 2 ≤ x.num.natAbs) : powT x.num x.den n = (0, 0, 3) := by
  rw [powT_ok x n h hn]
  unfold outT
  rw [if_neg (far_full hx h61)]

theorem pow_any (t l n : Int) (w : World) :
    Calls Try.prog 12 #[.agg #[.int .i64 t, .int .i64 l], .int .i64 n] w fun e w' => e = .returned (val3 (powT t l n)) ∧ Below w.heap.size w w' := by
  cases h : vld t l
  · rw [powT_bad h]
    exact pow_bad t l n w h
  by_cases h0 : n < 0
  · rw [powT_range h (Or.inl h0)]
    exact pow_neg t l n w h (decide_eq_true h0)
  by_cases h1 : 10000 < n
  · rw [powT_range h (Or.inr h1)]
    exact pow_far t l n w h (decide_eq_false h0) (decide_eq_true h1)
  have g0 := decide_eq_false h0
  have g1 := decide_eq_false h1
  obtain ⟨x, rfl, rfl, -⟩ := vld_rat h
  obtain ⟨k, rfl⟩ := Int.eq_ofNat_of_zero_le (by omega : 0 ≤ n)
  have hk : k ≤ 10000 := by omega
  have hx0 := x.den_nz
  have hout : k ≤ 60 → val3 (powT x.num x.den k) = outN (x ^ k) := fun _ => by rw [powT_ok x k h hk, outN_val]
  by_cases h2 : x.den = 1
  · have g2 : ((x.den : Int) == 1) = true := by rw [h2]; rfl
    by_cases h3 : -1 ≤ x.num
    · have g3 := decide_eq_true h3
      by_cases h4 : x.num ≤ 1
      · have g4 := decide_eq_true h4
        rw [powT_ok x k h hk, unit_fits h2 ⟨h3, h4⟩ k]
        rw [h2] at h ⊢
        exact pow_unit x.num k w h ⟨⟨h3, h4⟩, by omega⟩ g0 g1 g3 g4
      · have g4 := decide_eq_false h4
        by_cases h5 : 60 < (k : Int)
        · rw [powT_far x k h hk (by omega) (by omega)]
          exact pow_full3 _ _ _ w h g0 g1 g2 g3 g4 (decide_eq_true h5)
        · rw [hout (by omega)]
          exact pow_smallC x (fun k => x ^ k) k w (Rat.pow_zero x) (fun k => Rat.pow_succ x k) (fun j hj => pow_lim h hj) h (by omega) g0 g1 g2 g3 g4 (decide_eq_false h5)
    · have g3 := decide_eq_false h3
      by_cases h5 : 60 < (k : Int)
      · rw [powT_far x k h hk (by omega) (by omega)]
        exact pow_full2 _ _ _ w h g0 g1 g2 g3 (decide_eq_true h5)
      · rw [hout (by omega)]
        exact pow_smallB x (fun k => x ^ k) k w (Rat.pow_zero x) (fun k => Rat.pow_succ x k) (fun j hj => pow_lim h hj) h (by omega) g0 g1 g2 g3 (decide_eq_false h5)
  · have g2 : ((x.den : Int) == 1) = false := by rw [beq_eq_false_iff_ne]; omega
    by_cases h5 : 60 < (k : Int)
    · rw [powT_far x k h hk (by omega) (by omega)]
      exact pow_full1 _ _ _ w h g0 g1 g2 (decide_eq_true h5)
    · rw [hout (by omega)]
      exact pow_smallA x (fun k => x ^ k) k w (Rat.pow_zero x) (fun k => Rat.pow_succ x k) (fun j hj => pow_lim h hj) h (by omega) g0 g1 g2 (decide_eq_false h5)

theorem pow_awake : powT (-2) 3 3 = (-8, 27, 0) := by decide +kernel

theorem awake_any (w : World) : Calls Try.prog 13 #[] w fun e w' => e = .returned (.bool true) ∧ Below w.heap.size w w' :=
  awake_of w (Lib.hid fun wx => by
    have := pow_any (-2) 3 3 wx
    rw [pow_awake] at this
    exact this)

end Go.Proofs.Ytfhmhkbjcccejaa
