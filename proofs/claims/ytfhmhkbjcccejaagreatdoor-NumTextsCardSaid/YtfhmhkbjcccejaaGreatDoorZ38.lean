/- awake, out of one value of num.Pow. num.Pow on any arguments. Boxes of numbers in a law's memory, and what num's functions return, as plain integers. Fractions of the reference: the number of a fraction. -/
import Derived.Test.YtfhmhkbjcccejaaGreatDoorZ36
import Derived.Test.YtfhmhkbjcccejaaGreatDoorZ37
import Derived.Test.YtfhmhkbjcccejaaGreatDoorZ32
import Derived.Test.YtfhmhkbjcccejaaGreatDoorZ29

namespace Go.Proofs.YtfhmhkbjcccejaaGreatDoor
open Go.RowKit

theorem awake1 : resT (fun x y => x + y) 1 3 1 6 = (1, 2, 0) := by decide +kernel
theorem awake2 : resT (fun x y => x + y) 1152921504606846976 1 1 1 = (0, 0, 3) := by decide +kernel

set_option maxRecDepth 100000 in
set_option maxHeartbeats 2000000 in
theorem awake_of (w : World) (HP : Hid (∀ wx, Calls Tryz.prog 10 #[.agg #[.int .i64 (-2), .int .i64 3], .int .i64 3] wx fun e w' => e = .returned (.tuple #[.agg #[.int .i64 (-8), .int .i64 27], .int .i64 0]) ∧ Below wx.heap.size wx w')) :
    Calls Tryz.prog 4 #[] w fun e w' => e = .returned (.bool true) ∧ Below w.heap.size w w' := by
  have HA : Hid (∀ wx, Calls Tryz.prog 9 #[.agg #[.int .i64 1, .int .i64 3], .agg #[.int .i64 1, .int .i64 6]] wx fun e w' => e = .returned (.tuple #[.agg #[.int .i64 1, .int .i64 2], .int .i64 0]) ∧ Below wx.heap.size wx w') := fun wx => by
    have := addNum_any 1 3 1 6 wx
    rw [awake1] at this
    exact this
  have HB : Hid (∀ wx, Calls Tryz.prog 9 #[.agg #[.int .i64 1152921504606846976, .int .i64 1], .agg #[.int .i64 1, .int .i64 1]] wx fun e w' => e = .returned (.tuple #[.agg #[.int .i64 0, .int .i64 0], .int .i64 3]) ∧ Below wx.heap.size wx w') := fun wx => by
    have := addNum_any 1152921504606846976 1 1 1 wx
    rw [awake2] at this
    exact this
  go_enter Tryz.func4, Tryz.ntmps4
  go_wp2_with fail
  (with_reducible refine (HA.out _).mono ?_)
  rintro e w1 ⟨rfl, hB1⟩
  go_wp2_with fail
  generalize hY : w1.alloc (.cells #[.int .i64 1, .int .i64 2] 23) = Y
  obtain ⟨hY1, hY2, k0, k1⟩ : w1.heap.size < Y.heap.size ∧ Below w1.heap.size w1 Y ∧ Y.cell? ⟨w1.heap.size, 0, none⟩ = some (.int .i64 1) ∧ Y.cell? ⟨w1.heap.size, 1, none⟩ = some (.int .i64 2) := by
    subst hY
    exact ⟨by simp, below_alloc w1 _, by simp [go_sem], by simp [go_sem]⟩
  clear hY
  (with_reducible refine (HP.out _).mono ?_)
  rintro e w2 ⟨rfl, hB2⟩
  have n0 := Lib.hid ((hB2.cell (p := ⟨w1.heap.size, 0, none⟩) hY1).trans k0)
  have n1 := Lib.hid ((hB2.cell (p := ⟨w1.heap.size, 1, none⟩) hY1).trans k1)
  have S2 := Lib.hid (stepB (stepB hB1 hY2) hB2)
  have hz2 := Lib.hid (Nat.lt_of_lt_of_le hY1 hB2.size)
  clear hY1 hY2 k0 k1 hB1 hB2
  go_wp2_with fail
  generalize hZ : w2.alloc (.cells #[.int .i64 (-8), .int .i64 27] 23) = Z
  obtain ⟨hZ1, hZ2, k0, k1⟩ : w2.heap.size < Z.heap.size ∧ Below w2.heap.size w2 Z ∧ Z.cell? ⟨w2.heap.size, 0, none⟩ = some (.int .i64 (-8)) ∧ Z.cell? ⟨w2.heap.size, 1, none⟩ = some (.int .i64 27) := by
    subst hZ
    exact ⟨by simp, below_alloc w2 _, by simp [go_sem], by simp [go_sem]⟩
  clear hZ
  (with_reducible refine (HB.out _).mono ?_)
  rintro e w3 ⟨rfl, hB3⟩
  have hW3 := stepB hZ2 hB3
  have m0 := (hB3.cell (p := ⟨w2.heap.size, 0, none⟩) hZ1).trans k0
  have m1 := (hB3.cell (p := ⟨w2.heap.size, 1, none⟩) hZ1).trans k1
  have o0 := (hW3.cell (p := ⟨w1.heap.size, 0, none⟩) hz2.out).trans n0.out
  have o1 := (hW3.cell (p := ⟨w1.heap.size, 1, none⟩) hz2.out).trans n1.out
  have S3 := Lib.hid (stepB S2.out hW3)
  have y1 := Nat.lt_of_lt_of_le hz2.out hW3.size
  have y2 := Nat.lt_of_lt_of_le hZ1 hB3.size
  have o2 : ∀ o ob, (w3.alloc ob).cell? ⟨w1.heap.size, o, none⟩ = w3.cell? ⟨w1.heap.size, o, none⟩ := fun o ob => (below_alloc w3 ob).cell (p := ⟨w1.heap.size, o, none⟩) y1
  have m2 : ∀ o ob, (w3.alloc ob).cell? ⟨w2.heap.size, o, none⟩ = w3.cell? ⟨w2.heap.size, o, none⟩ := fun o ob => (below_alloc w3 ob).cell (p := ⟨w2.heap.size, o, none⟩) y2
  clear y1 y2
  clear k0 k1 hZ1 hZ2 hW3 hB3
  go_wp2_with fail
  all_goals (go_ret; exact ⟨rfl, S3.out.alloc S3.out.size _⟩)

end Go.Proofs.YtfhmhkbjcccejaaGreatDoor

namespace Go.Proofs.YtfhmhkbjcccejaaGreatDoor
open Go.RowKit

theorem powT_bad {t l n : Int} (h : vld t l = false) : powT t l n = (0, 0, 1) := by unfold powT; rw [if_pos h]
theorem powT_range {t l n : Int} (h : vld t l = true) (hn : n < 0 ∨ 10000 < n) : powT t l n = (0, 0, 6) := by
  unfold powT
  rw [if_neg (by rw [h]; decide), if_pos hn]
theorem powT_ok (x : Rat) (n : Nat) (h : vld x.num (x.den : Int) = true) (hn : n ≤ 10000) : powT x.num x.den n = outT (x ^ n) := by
  unfold powT
  rw [if_neg (by rw [h]; decide), if_neg (by omega), fr_of, Int.toNat_natCast]
theorem powT_far (x : Rat) (n : Nat) (h : vld x.num (x.den : Int) = true) (hn : n ≤ 10000) (h61 : 61 ≤ n) (hx : 2 ≤ x.den ∨ 2 ≤ x.num.natAbs) : powT x.num x.den n = (0, 0, 3) := by
  rw [powT_ok x n h hn]
  unfold outT
  rw [if_neg (far_full hx h61)]

theorem pow_any (t l n : Int) (w : World) :
    Calls Tryz.prog 10 #[.agg #[.int .i64 t, .int .i64 l], .int .i64 n] w fun e w' => e = .returned (val3 (powT t l n)) ∧ Below w.heap.size w w' := by
  cases h : vld t l
  · rw [powT_bad h]
    exact pow_bad t l n w h
  by_cases h0 : n < 0
  · rw [powT_range h (Or.inl h0)]
    exact pow_neg t l n w h (decide_eq_true h0)
  by_cases h1 : 10000 < n
  · rw [powT_range h (Or.inr h1)]
    exact pow_far t l n w h (decide_eq_false h0) (decide_eq_true h1)
  have g0 := decide_eq_false h0
  have g1 := decide_eq_false h1
  obtain ⟨x, rfl, rfl, -⟩ := vld_rat h
  obtain ⟨k, rfl⟩ := Int.eq_ofNat_of_zero_le (by omega : 0 ≤ n)
  have hk : k ≤ 10000 := by omega
  have hx0 := x.den_nz
  have hout : k ≤ 60 → val3 (powT x.num x.den k) = outN (x ^ k) := fun _ => by rw [powT_ok x k h hk, outN_val]
  by_cases h2 : x.den = 1
  · have g2 : ((x.den : Int) == 1) = true := by rw [h2]; rfl
    by_cases h3 : -1 ≤ x.num
    · have g3 := decide_eq_true h3
      by_cases h4 : x.num ≤ 1
      · have g4 := decide_eq_true h4
        rw [powT_ok x k h hk, unit_fits h2 ⟨h3, h4⟩ k]
        rw [h2] at h ⊢
        exact pow_unit x.num k w h ⟨⟨h3, h4⟩, by omega⟩ g0 g1 g3 g4
      · have g4 := decide_eq_false h4
        by_cases h5 : 60 < (k : Int)
        · rw [powT_far x k h hk (by omega) (by omega)]
          exact pow_full3 _ _ _ w h g0 g1 g2 g3 g4 (decide_eq_true h5)
        · rw [hout (by omega)]
          exact pow_smallC x (fun k => x ^ k) k w (Rat.pow_zero x) (fun k => Rat.pow_succ x k) (fun j hj => pow_lim h hj) h (by omega) g0 g1 g2 g3 g4 (decide_eq_false h5)
    · have g3 := decide_eq_false h3
      by_cases h5 : 60 < (k : Int)
      · rw [powT_far x k h hk (by omega) (by omega)]
        exact pow_full2 _ _ _ w h g0 g1 g2 g3 (decide_eq_true h5)
      · rw [hout (by omega)]
        exact pow_smallB x (fun k => x ^ k) k w (Rat.pow_zero x) (fun k => Rat.pow_succ x k) (fun j hj => pow_lim h hj) h (by omega) g0 g1 g2 g3 (decide_eq_false h5)
  · have g2 : ((x.den : Int) == 1) = false := by rw [beq_eq_false_iff_ne]; omega
    by_cases h5 : 60 < (k : Int)
    · rw [powT_far x k h hk (by omega) (by omega)]
      exact pow_full1 _ _ _ w h g0 g1 g2 (decide_eq_true h5)
    · rw [hout (by omega)]
      exact pow_smallA x (fun k => x ^ k) k w (Rat.pow_zero x) (fun k => Rat.pow_succ x k) (fun j hj => pow_lim h hj) h (by omega) g0 g1 g2 (decide_eq_false h5)

theorem pow_awake : powT (-2) 3 3 = (-8, 27, 0) := by decide +kernel

theorem awake_any (w : World) : Calls Tryz.prog 4 #[] w fun e w' => e = .returned (.bool true) ∧ Below w.heap.size w w' :=
  awake_of w (Lib.hid fun wx => by
    have := pow_any (-2) 3 3 wx
    rw [pow_awake] at this
    exact this)

end Go.Proofs.YtfhmhkbjcccejaaGreatDoor

namespace Go.Proofs.YtfhmhkbjcccejaaGreatDoor
open Go.RowKit

/-- Block g is a box of the number a / b. -/
def N2 (w : World) (g : Nat) (a b : Int) : Prop := w.cell? ⟨g, 0, none⟩ = some (.int .i64 a) ∧ w.cell? ⟨g, 1, none⟩ = some (.int .i64 b) ∧ w.frozen? ⟨g, 0, none⟩ = false ∧ w.frozen? ⟨g, 1, none⟩ = false ∧ Bx w g 23
theorem N2.lt {w : World} {g : Nat} {a b : Int} (h : N2 w g a b) : g < w.heap.size := by
  obtain ⟨_, _, _, _, cs, fr, hc⟩ := h
  exact lt_of_heap hc
theorem N2.keep {w w' : World} {g : Nat} {a b : Int} (h : N2 w g a b) (hb : Below w.heap.size w w') : N2 w' g a b :=
  ⟨(hb.cell (p := ⟨g, 0, none⟩) h.lt).trans h.1, (hb.cell (p := ⟨g, 1, none⟩) h.lt).trans h.2.1, (hb.frozen (p := ⟨g, 0, none⟩) h.lt).trans h.2.2.1, (hb.frozen (p := ⟨g, 1, none⟩) h.lt).trans h.2.2.2.1, h.2.2.2.2.keep hb⟩
theorem N2.new (w : World) (a b : Int) : N2 (w.alloc (.cells #[.int .i64 a, .int .i64 b] 23)) w.heap.size a b :=
  ⟨by simp [go_sem], by simp [go_sem], by simp [go_sem], by simp [go_sem], Bx.new w _ 23⟩
theorem N2.far {w : World} {g k : Nat} {a b : Int} (h : N2 w g a b) (hk : g ≠ k) (o : Nat) (u : Value) : N2 (w.setCell ⟨k, o, none⟩ u) g a b := by
  obtain ⟨h1, h2, f1, f2, hx⟩ := h
  have e : (w.setCell ⟨k, o, none⟩ u).heap[g]? = w.heap[g]? := Below.heap_setCell _ _ _ _ hk
  exact ⟨(World.cell?_of_block (w := w) (a := ⟨g, 0, none⟩) e).trans h1, (World.cell?_of_block (w := w) (a := ⟨g, 1, none⟩) e).trans h2,
    (World.frozen?_of_block (w := w) (a := ⟨g, 0, none⟩) e).trans f1, (World.frozen?_of_block (w := w) (a := ⟨g, 1, none⟩) e).trans f2, hx.set _ _ _⟩
/-- The store of two cells. -/
def set2 (w : World) (g : Nat) (x y : Int) : World := (w.setCell ⟨g, 0, none⟩ (.int .i64 x)).setCell ⟨g, 1, none⟩ (.int .i64 y)
theorem N2.set {w : World} {g : Nat} {a b : Int} (h : N2 w g a b) (x y : Int) : N2 (set2 w g x y) g x y := by
  obtain ⟨h1, h2, f1, f2, hx⟩ := h
  exact ⟨by simp [set2, go_sem, h1], by simp [set2, go_sem, h2], by simp [set2, go_sem, f1], by simp [set2, go_sem, f2], (hx.set _ _ _).set _ _ _⟩

/-- These blocks are boxes of these numbers, and no two are one. -/
def Bxs (w : World) (L : List (Nat × Int × Int)) : Prop := (∀ (k : Nat) (q : Nat × Int × Int), L[k]? = some q → N2 w q.1 q.2.1 q.2.2) ∧ ∀ (j k : Nat) (q r : Nat × Int × Int), L[j]? = some q → L[k]? = some r → q.1 = r.1 → j = k
theorem Bxs.nil (w : World) : Bxs w [] := ⟨fun k q h => by simp at h, fun j k q r h => by simp at h⟩
theorem Bxs.keep {w w' : World} {L : List (Nat × Int × Int)} (h : Bxs w L) (hb : Below w.heap.size w w') : Bxs w' L := ⟨fun k q hq => (h.1 k q hq).keep hb, h.2⟩
theorem Bxs.new {w : World} {L : List (Nat × Int × Int)} (h : Bxs w L) (a b : Int) : Bxs (w.alloc (.cells #[.int .i64 a, .int .i64 b] 23)) (L ++ [(w.heap.size, a, b)]) := by
  have hk := h.keep (below_alloc w (.cells #[.int .i64 a, .int .i64 b] 23))
  have key : ∀ (k : Nat) (q : Nat × Int × Int), (L ++ [(w.heap.size, a, b)])[k]? = some q → (L[k]? = some q ∧ k < L.length) ∨ (k = L.length ∧ q = (w.heap.size, a, b)) := by
    intro k q hq
    rcases Nat.lt_or_ge k L.length with hlt | hge
    · rw [List.getElem?_append_left hlt] at hq
      exact Or.inl ⟨hq, hlt⟩
    · rw [List.getElem?_append_right hge] at hq
      rcases Nat.eq_zero_or_pos (k - L.length) with h0 | h0
      · rw [h0] at hq
        simp at hq
        exact Or.inr ⟨by omega, hq.symm⟩
      · obtain ⟨m, hm⟩ : ∃ m, k - L.length = m + 1 := ⟨k - L.length - 1, by omega⟩
        rw [hm] at hq
        simp at hq
  refine ⟨fun k q hq => ?_, fun j k q r hq hr he => ?_⟩
  · rcases key k q hq with ⟨h1, -⟩ | ⟨-, rfl⟩
    · exact hk.1 k q h1
    · exact N2.new w a b
  · rcases key j q hq with ⟨h1, h1'⟩ | ⟨h1, rfl⟩ <;> rcases key k r hr with ⟨h2, h2'⟩ | ⟨h2, rfl⟩
    · exact h.2 j k q r h1 h2 he
    · have := (h.1 j q h1).lt
      rw [he] at this
      exact absurd this (Nat.lt_irrefl _)
    · have := (h.1 k r h2).lt
      rw [← he] at this
      exact absurd this (Nat.lt_irrefl _)
    · omega
theorem size_alloc (w : World) (o : Obj) : (w.alloc o).heap.size = w.heap.size + 1 := by simp
theorem Bxs.two (w : World) (a b c d : Int) : Bxs ((w.alloc (.cells #[.int .i64 a, .int .i64 b] 23)).alloc (.cells #[.int .i64 c, .int .i64 d] 23)) [(w.heap.size, a, b), (w.heap.size + 1, c, d)] := by
  have h := ((Bxs.nil w).new a b).new c d
  simp only [size_alloc, List.nil_append, List.cons_append] at h
  exact h
theorem Bxs.three (w : World) (a b c d e f : Int) : Bxs (((w.alloc (.cells #[.int .i64 a, .int .i64 b] 23)).alloc (.cells #[.int .i64 c, .int .i64 d] 23)).alloc (.cells #[.int .i64 e, .int .i64 f] 23)) [(w.heap.size, a, b), (w.heap.size + 1, c, d), (w.heap.size + 1 + 1, e, f)] := by
  have h := (((Bxs.nil w).new a b).new c d).new e f
  simp only [size_alloc, List.nil_append, List.cons_append] at h
  exact h
theorem Bxs.take {w : World} {L : List (Nat × Int × Int)} (h : Bxs w L) (n : Nat) : Bxs w (L.take n) := by
  have key : ∀ (k : Nat) (q : Nat × Int × Int), (L.take n)[k]? = some q → L[k]? = some q := by
    intro k q hq
    rw [List.getElem?_take] at hq
    split at hq
    · exact hq
    · cases hq
  exact ⟨fun k q hq => h.1 k q (key k q hq), fun j k q r hq hr => h.2 j k q r (key j q hq) (key k r hr)⟩
theorem Bxs.set {w : World} {L : List (Nat × Int × Int)} (h : Bxs w L) (k : Nat) {g : Nat} {a b : Int} (hk : L[k]? = some (g, a, b)) (x y : Int) : Bxs (set2 w g x y) (L.set k (g, x, y)) := by
  have hlt : k < L.length := (List.getElem?_eq_some_iff.1 hk).1
  have key : ∀ (j : Nat) (q : Nat × Int × Int), (L.set k (g, x, y))[j]? = some q → (j ≠ k ∧ L[j]? = some q) ∨ (j = k ∧ q = (g, x, y)) := by
    intro j q hq
    by_cases e : j = k
    · subst e
      rw [List.getElem?_set_self hlt] at hq
      injection hq with hq
      exact Or.inr ⟨rfl, hq.symm⟩
    · rw [List.getElem?_set_ne (Ne.symm e)] at hq
      exact Or.inl ⟨e, hq⟩
  refine ⟨fun j q hq => ?_, fun i j q r hq hr he => ?_⟩
  · rcases key j q hq with ⟨h1, h2⟩ | ⟨-, rfl⟩
    · have hne : q.1 ≠ g := fun e => h1 (h.2 j k q _ h2 hk e)
      exact ((h.1 j q h2).far hne _ _).far hne _ _
    · exact (h.1 k _ hk).set x y
  · rcases key i q hq with ⟨h1, h2⟩ | ⟨h1, rfl⟩ <;> rcases key j r hr with ⟨h3, h4⟩ | ⟨h3, rfl⟩
    · exact h.2 i j q r h2 h4 he
    · exact h.2 i j q (g, a, b) h2 (by rw [h3]; exact hk) he
    · exact h.2 i j (g, a, b) r (by rw [h1]; exact hk) h4 he
    · omega
theorem set2_below {base : Nat} {X w : World} (h : Below base X w) {g : Nat} (hg : base ≤ g) (x y : Int) : Below base X (set2 w g x y) := (h.setCell hg _).setCell hg _

/-- What a function on numbers returns. -/
def Rt (a b c : Int) (w : World) (e : Ending) (w' : World) : Prop := e = .returned (.tuple #[.agg #[.int .i64 a, .int .i64 b], .int .i64 c]) ∧ Below w.heap.size w w'

theorem addRt (t l t' l' : Int) (w : World) : Calls Tryz.prog 9 #[.agg #[.int .i64 t, .int .i64 l], .agg #[.int .i64 t', .int .i64 l']] w (Rt (resT (fun x y => x + y) t l t' l').1 (resT (fun x y => x + y) t l t' l').2.1 (resT (fun x y => x + y) t l t' l').2.2 w) := addNum_any t l t' l' w
theorem powRt (t l n : Int) (w : World) : Calls Tryz.prog 10 #[.agg #[.int .i64 t, .int .i64 l], .int .i64 n] w (Rt (powT t l n).1 (powT t l n).2.1 (powT t l n).2.2 w) := pow_any t l n w

/-- A result without an error. -/
theorem vld_fits {z : Rat} (h : Fits z) : vld z.num (z.den : Int) = true := by
  obtain ⟨h1, h2⟩ := h
  rw [MaxN_eq] at h1 h2
  have := z.den_nz
  have h3 : Nat.gcd z.num.natAbs z.den = 1 := z.reduced
  simp only [vld, Bool.and_eq_true, Bool.not_eq_true', decide_eq_false_iff_not, beq_iff_eq, Int.toNat_natCast]
  exact ⟨⟨⟨⟨by omega, by omega⟩, by omega⟩, by omega⟩, h3⟩
theorem outT_zero {z : Rat} (h : (outT z).2.2 = 0) : Fits z ∧ outT z = (z.num, (z.den : Int), 0) := by
  unfold outT at h ⊢
  by_cases hf : Fits z
  · rw [if_pos hf]
    exact ⟨hf, rfl⟩
  · rw [if_neg hf] at h
    cases h
theorem resT_zero {f : Rat → Rat → Rat} {t l t' l' : Int} (h : (resT f t l t' l').2.2 = 0) :
    ∃ x y : Rat, t = x.num ∧ l = (x.den : Int) ∧ t' = y.num ∧ l' = (y.den : Int) ∧ vld x.num (x.den : Int) = true ∧ vld y.num (y.den : Int) = true ∧ Fits (f x y) ∧ resT f t l t' l' = ((f x y).num, ((f x y).den : Int), 0) := by
  cases h1 : vld t l
  · rw [resT_bad (by rw [h1]; rfl)] at h
    cases h
  cases h2 : vld t' l'
  · rw [resT_bad (by rw [h1, h2]; rfl)] at h
    cases h
  obtain ⟨x, rfl, rfl, -⟩ := vld_rat h1
  obtain ⟨y, rfl, rfl, -⟩ := vld_rat h2
  rw [resT_ok x y h1 h2] at h ⊢
  obtain ⟨k1, k2⟩ := outT_zero h
  exact ⟨x, y, rfl, rfl, rfl, rfl, h1, h2, k1, k2⟩
theorem rat_eq {x y : Rat} (h1 : x.num = y.num) (h2 : (x.den : Int) = (y.den : Int)) : x = y := Rat.ext h1 (by omega)
theorem resT_comm {f : Rat → Rat → Rat} (hf : ∀ x y, f x y = f y x) (t l t' l' : Int) : resT f t l t' l' = resT f t' l' t l := by
  unfold resT
  rw [hf, Bool.and_comm]

end Go.Proofs.YtfhmhkbjcccejaaGreatDoor

namespace Go.Proofs.YtfhmhkbjcccejaaGreatDoor
open Go.RowKit

set_option maxRecDepth 100000 in
set_option maxHeartbeats 20000000 in
theorem rv_num (K : Nat) {u : Value} {x : Rat} {w : World} (h : RFV w u x) (hK : K ≤ 250000) (hx : x.num.natAbs < Bs ^ K ∧ x.den < Bs ^ K) : Calls Tryz.prog 26 #[u] w fun e w' => e = .returned (outN x) ∧ Below w.heap.size w w' := by
  obtain ⟨s1, n1, A1, m1, c1, s2, n2, A2, m2, c2, rfl, r1, r2⟩ := h
  have l1 := r1.len hx.1
  have l2 := r2.len (den_bound x hx.2)
  have HF : Hid (∀ wx, Below w.heap.size w wx → Calls Tryz.prog 60 #[.agg #[.int .i64 s1, .bool n1, .slice A1 m1 c1, .int .i64 s2, .bool n2, .slice A2 m2 c2]] wx fun e w' => e = .returned (fromV x.num (x.den : Int)) ∧ Below wx.heap.size wx w') := fun wx hb =>
    rfrom_any _ _ _ _ _ _ _ _ _ _ _ _ wx (r1.keep hb) (r2.keep hb) (by omega) (by omega)
  clear r1 r2 l1 l2 hx hK
  have hcase : (fromV x.num (x.den : Int) = .tuple #[.agg #[.int .i64 x.num, .int .i64 (x.den : Int)], .bool true] ∧ outN x = .tuple #[.agg #[.int .i64 x.num, .int .i64 (x.den : Int)], .int .i64 0]) ∨
      (fromV x.num (x.den : Int) = .tuple #[.agg #[.int .i64 0, .int .i64 0], .bool false] ∧ outN x = .tuple #[.agg #[.int .i64 0, .int .i64 0], .int .i64 3]) := by
    by_cases hf : Fits x
    · refine Or.inl ⟨if_pos ?_, if_pos hf⟩
      unfold Fits MaxN at hf
      omega
    · refine Or.inr ⟨if_neg ?_, if_neg hf⟩
      intro k
      apply hf
      unfold Fits MaxN
      omega
  generalize outN x = ov at hcase ⊢
  generalize x.num = p at HF hcase
  generalize (x.den : Int) = q at HF hcase
  rcases hcase with ⟨e1, rfl⟩ | ⟨e1, rfl⟩
  · rw [e1] at HF
    clear e1
    go_enter Tryz.func26, Tryz.ntmps26
    go_upto_region 1 with fail
    generalize hX : (w.alloc _).alloc _ = X
    have HX : Hid (Below w.heap.size w X) := by
      subst hX
      exact below_two w _ _
    obtain ⟨⟨k0, k1, k2, k3, k4, k5⟩, ⟨x0, x1, x2, x3⟩, z1⟩ : (X.cell? ⟨w.heap.size, 0, none⟩ = some (.int .i64 s1) ∧ X.cell? ⟨w.heap.size, 1, none⟩ = some (.bool n1) ∧ X.cell? ⟨w.heap.size, 2, none⟩ = some (.slice A1 m1 c1) ∧ X.cell? ⟨w.heap.size, 3, none⟩ = some (.int .i64 s2) ∧ X.cell? ⟨w.heap.size, 4, none⟩ = some (.bool n2) ∧ X.cell? ⟨w.heap.size, 5, none⟩ = some (.slice A2 m2 c2)) ∧
        (X.cell? ⟨w.heap.size + 1, 0, none⟩ = some (.int .i64 0) ∧ X.cell? ⟨w.heap.size + 1, 1, none⟩ = some (.int .i64 0) ∧ X.frozen? ⟨w.heap.size + 1, 0, none⟩ = false ∧ X.frozen? ⟨w.heap.size + 1, 1, none⟩ = false) ∧ w.heap.size + 1 < X.heap.size := by
      subst hX
      simp [go_sem]
    clear hX
    go_wp2_with fail
    (with_reducible refine (HF.out _ HX.out).mono ?_)
    rintro e w1 ⟨rfl, hB1⟩
    have HB1 := Lib.hid (HX.out.trans (hB1.mono HX.out.size))
    obtain ⟨C1, F1⟩ := bcell hB1
    have HGT : Hid (w.heap.size + 1 < w1.heap.size) := Nat.lt_of_lt_of_le z1 hB1.size
    rw [← C1 _ _ z1] at x0 x1
    rw [← F1 _ _ z1] at x2 x3
    clear k0 k1 k2 k3 k4 k5 C1 F1 hB1 z1
    go_upto_region 2 with fail
    generalize hY : w1.alloc _ = Y
    have HY : Hid (Below w.heap.size w Y) := by
      subst hY
      exact HB1.out.alloc HB1.out.size _
    obtain ⟨⟨y0, y1⟩, y2, y3, y4, y5⟩ : (Y.cell? ⟨w1.heap.size, 0, none⟩ = some (.int .i64 p) ∧ Y.cell? ⟨w1.heap.size, 1, none⟩ = some (.int .i64 q)) ∧ Y.cell? ⟨w.heap.size + 1, 0, none⟩ = some (.int .i64 0) ∧ Y.cell? ⟨w.heap.size + 1, 1, none⟩ = some (.int .i64 0) ∧ Y.frozen? ⟨w.heap.size + 1, 0, none⟩ = false ∧ Y.frozen? ⟨w.heap.size + 1, 1, none⟩ = false := by
      subst hY
      have hA := below_alloc w1 (.cells #[.int .i64 p, .int .i64 q] 23)
      refine ⟨by simp [go_sem], ?_, ?_, ?_, ?_⟩
      · exact (hA.cell (p := ⟨w.heap.size + 1, 0, none⟩) HGT.out).trans x0
      · exact (hA.cell (p := ⟨w.heap.size + 1, 1, none⟩) HGT.out).trans x1
      · exact (hA.frozen (p := ⟨w.heap.size + 1, 0, none⟩) HGT.out).trans x2
      · exact (hA.frozen (p := ⟨w.heap.size + 1, 1, none⟩) HGT.out).trans x3
    clear hY x0 x1 x2 x3 HX HB1 HGT HF
    go_wp2_with fail
    exact bodyPost_ret (v := .tuple #[.agg #[.int .i64 p, .int .i64 q], .int .i64 0]) (by simp [results, Tryz.results26, go_sem, y2, y3]) rfl ⟨rfl, (HY.out.setCell (Nat.le_succ _) _).setCell (Nat.le_succ _) _⟩
  · rw [e1] at HF
    clear e1
    go_enter Tryz.func26, Tryz.ntmps26
    go_upto_region 1 with fail
    generalize hX : (w.alloc _).alloc _ = X
    have HX : Hid (Below w.heap.size w X) := by
      subst hX
      exact below_two w _ _
    obtain ⟨⟨k0, k1, k2, k3, k4, k5⟩, ⟨x0, x1, x2, x3⟩, z1⟩ : (X.cell? ⟨w.heap.size, 0, none⟩ = some (.int .i64 s1) ∧ X.cell? ⟨w.heap.size, 1, none⟩ = some (.bool n1) ∧ X.cell? ⟨w.heap.size, 2, none⟩ = some (.slice A1 m1 c1) ∧ X.cell? ⟨w.heap.size, 3, none⟩ = some (.int .i64 s2) ∧ X.cell? ⟨w.heap.size, 4, none⟩ = some (.bool n2) ∧ X.cell? ⟨w.heap.size, 5, none⟩ = some (.slice A2 m2 c2)) ∧
        (X.cell? ⟨w.heap.size + 1, 0, none⟩ = some (.int .i64 0) ∧ X.cell? ⟨w.heap.size + 1, 1, none⟩ = some (.int .i64 0) ∧ X.frozen? ⟨w.heap.size + 1, 0, none⟩ = false ∧ X.frozen? ⟨w.heap.size + 1, 1, none⟩ = false) ∧ w.heap.size + 1 < X.heap.size := by
      subst hX
      simp [go_sem]
    clear hX
    go_wp2_with fail
    (with_reducible refine (HF.out _ HX.out).mono ?_)
    rintro e w1 ⟨rfl, hB1⟩
    have HB1 := Lib.hid (HX.out.trans (hB1.mono HX.out.size))
    obtain ⟨C1, F1⟩ := bcell hB1
    have HGT : Hid (w.heap.size + 1 < w1.heap.size) := Nat.lt_of_lt_of_le z1 hB1.size
    rw [← C1 _ _ z1] at x0 x1
    rw [← F1 _ _ z1] at x2 x3
    clear k0 k1 k2 k3 k4 k5 C1 F1 hB1 z1
    go_upto_region 2 with fail
    generalize hY : w1.alloc _ = Y
    have HY : Hid (Below w.heap.size w Y) := by
      subst hY
      exact HB1.out.alloc HB1.out.size _
    obtain ⟨⟨y0, y1⟩, y2, y3, y4, y5⟩ : (Y.cell? ⟨w1.heap.size, 0, none⟩ = some (.int .i64 0) ∧ Y.cell? ⟨w1.heap.size, 1, none⟩ = some (.int .i64 0)) ∧ Y.cell? ⟨w.heap.size + 1, 0, none⟩ = some (.int .i64 0) ∧ Y.cell? ⟨w.heap.size + 1, 1, none⟩ = some (.int .i64 0) ∧ Y.frozen? ⟨w.heap.size + 1, 0, none⟩ = false ∧ Y.frozen? ⟨w.heap.size + 1, 1, none⟩ = false := by
      subst hY
      have hA := below_alloc w1 (.cells #[.int .i64 0, .int .i64 0] 23)
      refine ⟨by simp [go_sem], ?_, ?_, ?_, ?_⟩
      · exact (hA.cell (p := ⟨w.heap.size + 1, 0, none⟩) HGT.out).trans x0
      · exact (hA.cell (p := ⟨w.heap.size + 1, 1, none⟩) HGT.out).trans x1
      · exact (hA.frozen (p := ⟨w.heap.size + 1, 0, none⟩) HGT.out).trans x2
      · exact (hA.frozen (p := ⟨w.heap.size + 1, 1, none⟩) HGT.out).trans x3
    clear hY x0 x1 x2 x3 HX HB1 HGT HF
    go_wp2_with fail
    exact bodyPost_ret (v := .tuple #[.agg #[.int .i64 0, .int .i64 0], .int .i64 3]) (by simp [results, Tryz.results26, go_sem, y2, y3]) rfl ⟨rfl, (HY.out.setCell (Nat.le_succ _) _).setCell (Nat.le_succ _) _⟩

end Go.Proofs.YtfhmhkbjcccejaaGreatDoor
