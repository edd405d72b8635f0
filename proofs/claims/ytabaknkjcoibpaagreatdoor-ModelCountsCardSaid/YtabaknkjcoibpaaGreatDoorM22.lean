/- Quotient and remainder of integers of the reference in memory: what the two results are, and what is known while they are made in a drawn order. Quotient and remainder of integers of the reference in memory: all sizes. -/
import Derived.Test.YtabaknkjcoibpaaGreatDoorM21

namespace Go.Proofs.YtabaknkjcoibpaaGreatDoor
open Go.RowKit

theorem over_sgz {z z' : Int} {Q R : Nat} (h0 : z' ≠ 0) (h : z.natAbs = Q * z'.natAbs + R) (hR : R < z'.natAbs) : sgz (sgnI z != sgnI z') Q = z.tdiv z' ∧ sgz (decide (sgnI z < 0)) R = z.tmod z' := by
  have hy : 0 < z'.natAbs := by omega
  have e1 : z.natAbs / z'.natAbs = Q := by rw [h, Nat.mul_comm, Nat.mul_add_div hy, Nat.div_eq_of_lt hR, Nat.add_zero]
  have e2 : z.natAbs % z'.natAbs = R := by rw [h, Nat.mul_comm, Nat.mul_add_mod, Nat.mod_eq_of_lt hR]
  clear h hR
  subst e1 e2
  rw [sgn_lt]
  obtain ⟨y, hy'⟩ : ∃ y : Nat, z'.natAbs = y := ⟨_, rfl⟩
  obtain ⟨x, hx⟩ : ∃ x : Nat, z.natAbs = x := ⟨_, rfl⟩
  rw [hy'] at hy ⊢
  rw [hx]
  have d1 := Int.ofNat_tdiv x y
  have d2 := Int.ofNat_tmod x y
  rcases Int.lt_trichotomy z 0 with k | k | k
  · have ez : z = -(x : Int) := by omega
    have s1 : sgnI z = -1 := if_pos k
    rcases Int.lt_or_gt_of_ne h0 with k' | k'
    · have ez' : z' = -(y : Int) := by omega
      have s2 : sgnI z' = -1 := if_pos k'
      rw [s1, s2, decide_eq_true k, ez, ez', Int.neg_tdiv, Int.tdiv_neg, Int.neg_tmod, Int.tmod_neg, ← d1, ← d2, Int.neg_neg]
      exact ⟨rfl, rfl⟩
    · have ez' : z' = (y : Int) := by omega
      have s2 : sgnI z' = 1 := by unfold sgnI; rw [if_neg (by omega), if_neg (by omega)]
      rw [s1, s2, decide_eq_true k, ez, ez', Int.neg_tdiv, Int.neg_tmod, ← d1, ← d2]
      exact ⟨rfl, rfl⟩
  · have ex : x = 0 := by omega
    subst k ex
    rw [Int.zero_tdiv, Int.zero_tmod, Nat.zero_div, Nat.zero_mod]
    constructor
    · cases (sgnI 0 != sgnI z') <;> rfl
    · rfl
  · have ez : z = (x : Int) := by omega
    have s1 : sgnI z = 1 := by unfold sgnI; rw [if_neg (by omega), if_neg (by omega)]
    have kn : ¬ z < 0 := by omega
    rcases Int.lt_or_gt_of_ne h0 with k' | k'
    · have ez' : z' = -(y : Int) := by omega
      have s2 : sgnI z' = -1 := if_pos k'
      rw [s1, s2, decide_eq_false kn, ez, ez', Int.tdiv_neg, Int.tmod_neg, ← d1, ← d2]
      exact ⟨rfl, rfl⟩
    · have ez' : z' = (y : Int) := by omega
      have s2 : sgnI z' = 1 := by unfold sgnI; rw [if_neg (by omega), if_neg (by omega)]
      rw [s1, s2, decide_eq_false kn, ez, ez', ← d1, ← d2]
      exact ⟨rfl, rfl⟩

/-- The store of three cells. -/
def set3 (w : World) (g : Nat) (a b c : Value) : World := ((w.setCell ⟨g, 0, none⟩ a).setCell ⟨g, 1, none⟩ b).setCell ⟨g, 2, none⟩ c
theorem W3.bx {g : Nat} {w : World} (h : W3 g w) : Bx w g 84 := h.2.2.2.2
theorem size_set (w : World) (g o : Nat) (u : Value) : w.heap.size ≤ (w.setCell ⟨g, o, none⟩ u).heap.size := ((Below.refl 0 w).setCell (Nat.zero_le _) u).size
theorem B3.far {g k : Nat} {p q r : Value} {w : World} (h : B3 g p q r w) (hk : g ≠ k) (o : Nat) (u : Value) : B3 g p q r (w.setCell ⟨k, o, none⟩ u) := by
  obtain ⟨h1, h2, h3, h4⟩ := h
  have e : (w.setCell ⟨k, o, none⟩ u).heap[g]? = w.heap[g]? := Below.heap_setCell _ _ _ _ hk
  exact ⟨(World.cell?_of_block (w := w) (a := ⟨g, 0, none⟩) e).trans h1, (World.cell?_of_block (w := w) (a := ⟨g, 1, none⟩) e).trans h2, (World.cell?_of_block (w := w) (a := ⟨g, 2, none⟩) e).trans h3, Nat.lt_of_lt_of_le h4 (size_set _ _ _ _)⟩
theorem W3.far {g k : Nat} {w : World} (h : W3 g w) (hk : g ≠ k) (o : Nat) (u : Value) : W3 g (w.setCell ⟨k, o, none⟩ u) := by
  obtain ⟨⟨p, q, r, h1, h2, h3⟩, f1, f2, f3, hx⟩ := h
  have e : (w.setCell ⟨k, o, none⟩ u).heap[g]? = w.heap[g]? := Below.heap_setCell _ _ _ _ hk
  exact ⟨⟨p, q, r, (World.cell?_of_block (w := w) (a := ⟨g, 0, none⟩) e).trans h1, (World.cell?_of_block (w := w) (a := ⟨g, 1, none⟩) e).trans h2, (World.cell?_of_block (w := w) (a := ⟨g, 2, none⟩) e).trans h3⟩,
    (World.frozen?_of_block (w := w) (a := ⟨g, 0, none⟩) e).trans f1, (World.frozen?_of_block (w := w) (a := ⟨g, 1, none⟩) e).trans f2, (World.frozen?_of_block (w := w) (a := ⟨g, 2, none⟩) e).trans f3, hx.set _ _ _⟩
theorem W3.set {g : Nat} {w : World} (h : W3 g w) (p q r : Value) : B3 g p q r (set3 w g p q r) ∧ W3 g (set3 w g p q r) := by
  obtain ⟨⟨a, b, c, h1, h2, h3⟩, f1, f2, f3, hx⟩ := h
  have hz := hx.lt
  have hb : w.heap.size ≤ (set3 w g p q r).heap.size := Nat.le_trans (Nat.le_trans (size_set _ _ _ _) (size_set _ _ _ _)) (size_set _ _ _ _)
  have hb3 : B3 g p q r (set3 w g p q r) := by
    refine ⟨?_, ?_, ?_, Nat.lt_of_lt_of_le hz hb⟩ <;> simp [set3, go_sem, h1, h2, h3]
  refine ⟨hb3, ⟨p, q, r, hb3.1, hb3.2.1, hb3.2.2.1⟩, ?_, ?_, ?_, ((hx.set _ _ _).set _ _ _).set _ _ _⟩ <;> simp [set3, go_sem, f1, f2, f3]
theorem set3_below {base : Nat} {X w : World} (h : Below base X w) {g : Nat} (hg : base ≤ g) (a b c : Value) : Below base X (set3 w g a b c) := ((h.setCell hg _).setCell hg _).setCell hg _

/-- A value that is an integer. -/
def IV (w : World) (v : Value) (z : Int) : Prop := ∃ s neg A n c, v = .agg #[.int .i64 s, .bool neg, .slice A n c] ∧ RI w s neg A n c z
theorem IV.keep {w w' : World} {v : Value} {z : Int} (h : IV w v z) (hb : Below w.heap.size w w') : IV w' v z := by
  obtain ⟨s, neg, A, n, c, e, h1⟩ := h
  exact ⟨s, neg, A, n, c, e, h1.keep hb⟩
theorem RI.set_3 {w : World} {s : Int} {neg : Bool} {A : Option Addr} {n c : Nat} {z : Int} (h : RI w s neg A n c z) {g : Nat} (hw : W3 g w) (p q r : Value) : RI (set3 w g p q r) s neg A n c z :=
  ((h.set hw.bx (by decide) _ _).set (hw.bx.set _ _ _) (by decide) _ _).set ((hw.bx.set _ _ _).set _ _ _) (by decide) _ _
theorem IV.set_3 {w : World} {v : Value} {z : Int} (h : IV w v z) {g : Nat} (hw : W3 g w) (p q r : Value) : IV (set3 w g p q r) v z := by
  obtain ⟨s, neg, A, n, c, e, h1⟩ := h
  exact ⟨s, neg, A, n, c, e, h1.set_3 hw p q r⟩
theorem Ls.set_3 {w : World} {v : Value} {l : List Nat} (h : Ls w v l) {g : Nat} (hw : W3 g w) (p q r : Value) : Ls (set3 w g p q r) v l :=
  ((h.set hw.bx (by decide) _ _).set (hw.bx.set _ _ _) (by decide) _ _).set ((hw.bx.set _ _ _).set _ _ _) (by decide) _ _
/-- A box that holds an integer. -/
def BI (w : World) (g : Nat) (z : Int) : Prop := ∃ s neg A n c, B3 g (.int .i64 s) (.bool neg) (.slice A n c) w ∧ RI w s neg A n c z
theorem BI.keep {w w' : World} {g : Nat} {z : Int} (h : BI w g z) (hb : Below w.heap.size w w') : BI w' g z := by
  obtain ⟨s, neg, A, n, c, e, h1⟩ := h
  exact ⟨s, neg, A, n, c, e.keep hb, h1.keep hb⟩
theorem B3.set_3 {g k : Nat} {p q r : Value} {w : World} (h : B3 g p q r w) (hk : g ≠ k) (a b c : Value) : B3 g p q r (set3 w k a b c) := ((h.far hk _ _).far hk _ _).far hk _ _
theorem W3.set_3 {g k : Nat} {w : World} (h : W3 g w) (hk : g ≠ k) (a b c : Value) : W3 g (set3 w k a b c) := ((h.far hk _ _).far hk _ _).far hk _ _
theorem BI.set_3 {w : World} {g k : Nat} {z : Int} (h : BI w g z) (hk : g ≠ k) (hw : W3 k w) (a b c : Value) : BI (set3 w k a b c) g z := by
  obtain ⟨s, neg, A, n, d, e, h1⟩ := h
  exact ⟨s, neg, A, n, d, e.set_3 hk a b c, h1.set_3 hw a b c⟩

/-- What does not change while the two results are made. -/
structure Fix (w : World) (B : Nat) (p q r p' q' r' x y : Value) (lq lr : List Nat) (wx : World) : Prop where
  below : Below B w wx
  ba : B3 B p q r wx
  bb : B3 (B + 1) p' q' r' wx
  wq : W3 (B + 1 + 1) wx
  wr : W3 (B + 1 + 1 + 1) wx
  lx : Ls wx x lq
  ly : Ls wx y lr
/-- What slot i holds, once operation i has come up. -/
def GO (B : Nat) (za zb x y : Value) (q1 q2 : Int) (b1 b2 : Bool) (zq zr : Int) (i : Nat) (u : Value) (wx : World) : Prop :=
  match i with
  | 0 => u = za
  | 1 => u = .int .i64 q1
  | 2 => u = zb
  | 3 => u = .int .i64 q2
  | 4 => u = .bool b1
  | 5 => u = x
  | 6 => IV wx u zq
  | 7 => u = za
  | 8 => u = .int .i64 q1
  | 9 => u = .bool b2
  | 10 => u = y
  | 11 => IV wx u zr
  | 12 => BI wx (B + 1 + 1) zq
  | 13 => BI wx (B + 1 + 1 + 1) zr
  | _ => True
section
variable {w : World} {B : Nat} {p q r p' q' r' x y za zb : Value} {lq lr : List Nat} {q1 q2 : Int} {b1 b2 : Bool} {zq zr : Int} {wx wy : World} {b : Nat → Bool} {v : Nat → Value}
theorem Fix.keep (h : Fix w B p q r p' q' r' x y lq lr wx) (hb : Below wx.heap.size wx wy) (hB : B ≤ wx.heap.size) : Fix w B p q r p' q' r' x y lq lr wy :=
  ⟨h.below.trans (hb.mono hB), h.ba.keep hb, h.bb.keep hb, h.wq.keep hb, h.wr.keep hb, h.lx.keep hb, h.ly.keep hb⟩
theorem Fix.put2 (h : Fix w B p q r p' q' r' x y lq lr wx) (a c d : Value) : Fix w B p q r p' q' r' x y lq lr (set3 wx (B + 1 + 1) a c d) :=
  ⟨set3_below h.below (by omega) _ _ _, h.ba.set_3 (by omega) _ _ _, h.bb.set_3 (by omega) _ _ _, (h.wq.set _ _ _).2, h.wr.set_3 (by omega) _ _ _, h.lx.set_3 h.wq _ _ _, h.ly.set_3 h.wq _ _ _⟩
theorem Fix.put3 (h : Fix w B p q r p' q' r' x y lq lr wx) (a c d : Value) : Fix w B p q r p' q' r' x y lq lr (set3 wx (B + 1 + 1 + 1) a c d) :=
  ⟨set3_below h.below (by omega) _ _ _, h.ba.set_3 (by omega) _ _ _, h.bb.set_3 (by omega) _ _ _, h.wq.set_3 (by omega) _ _ _, (h.wr.set _ _ _).2, h.lx.set_3 h.wr _ _ _, h.ly.set_3 h.wr _ _ _⟩
theorem GO.keep {i : Nat} {u : Value} (h : GO B za zb x y q1 q2 b1 b2 zq zr i u wx) (hb : Below wx.heap.size wx wy) : GO B za zb x y q1 q2 b1 b2 zq zr i u wy := by
  by_cases h14 : i < 14
  · rcases (by omega : i = 0 ∨ i = 1 ∨ i = 2 ∨ i = 3 ∨ i = 4 ∨ i = 5 ∨ i = 6 ∨ i = 7 ∨ i = 8 ∨ i = 9 ∨ i = 10 ∨ i = 11 ∨ i = 12 ∨ i = 13) with rfl | rfl | rfl | rfl | rfl | rfl | rfl | rfl | rfl | rfl | rfl | rfl | rfl | rfl
    all_goals first | exact IV.keep h hb | exact BI.keep h hb | exact h
  · obtain ⟨k, rfl⟩ : ∃ k, i = k + 14 := ⟨i - 14, by omega⟩
    exact trivial
theorem GO.put2 {i : Nat} {u : Value} (h : GO B za zb x y q1 q2 b1 b2 zq zr i u wx) (hi : i ≠ 12) (hw : W3 (B + 1 + 1) wx) (a c d : Value) : GO B za zb x y q1 q2 b1 b2 zq zr i u (set3 wx (B + 1 + 1) a c d) := by
  by_cases h14 : i < 14
  · rcases (by omega : i = 0 ∨ i = 1 ∨ i = 2 ∨ i = 3 ∨ i = 4 ∨ i = 5 ∨ i = 6 ∨ i = 7 ∨ i = 8 ∨ i = 9 ∨ i = 10 ∨ i = 11 ∨ i = 12 ∨ i = 13) with rfl | rfl | rfl | rfl | rfl | rfl | rfl | rfl | rfl | rfl | rfl | rfl | rfl | rfl
    all_goals first | exact IV.set_3 h hw _ _ _ | exact BI.set_3 h (by omega) hw _ _ _ | exact (hi rfl).elim | exact h
  · obtain ⟨k, rfl⟩ : ∃ k, i = k + 14 := ⟨i - 14, by omega⟩
    exact trivial
theorem GO.put3 {i : Nat} {u : Value} (h : GO B za zb x y q1 q2 b1 b2 zq zr i u wx) (hi : i ≠ 13) (hw : W3 (B + 1 + 1 + 1) wx) (a c d : Value) : GO B za zb x y q1 q2 b1 b2 zq zr i u (set3 wx (B + 1 + 1 + 1) a c d) := by
  by_cases h14 : i < 14
  · rcases (by omega : i = 0 ∨ i = 1 ∨ i = 2 ∨ i = 3 ∨ i = 4 ∨ i = 5 ∨ i = 6 ∨ i = 7 ∨ i = 8 ∨ i = 9 ∨ i = 10 ∨ i = 11 ∨ i = 12 ∨ i = 13) with rfl | rfl | rfl | rfl | rfl | rfl | rfl | rfl | rfl | rfl | rfl | rfl | rfl | rfl
    all_goals first | exact IV.set_3 h hw _ _ _ | exact BI.set_3 h (by omega) hw _ _ _ | exact (hi rfl).elim | exact h
  · obtain ⟨k, rfl⟩ : ∃ k, i = k + 14 := ⟨i - 14, by omega⟩
    exact trivial
end

/-- What has come up and what it has made. -/
def JO (w : World) (B : Nat) (p q r p' q' r' x y : Value) (lq lr : List Nat) (q1 q2 : Int) (b1 b2 : Bool) (zq zr : Int) (b : Nat → Bool) (v : Nat → Value) (wx : World) : Prop :=
  Fix w B p q r p' q' r' x y lq lr wx ∧ ∀ i, b i = true → GO B (.agg #[p, q, r]) (.agg #[p', q', r']) x y q1 q2 b1 b2 zq zr i (v (38 + i)) wx
section
variable {w : World} {B : Nat} {p q r p' q' r' x y : Value} {lq lr : List Nat} {q1 q2 : Int} {b1 b2 : Bool} {zq zr : Int} {wx wy : World} {b : Nat → Bool} {v : Nat → Value}
theorem JO.keep (h : JO w B p q r p' q' r' x y lq lr q1 q2 b1 b2 zq zr b v wx) (hb : Below wx.heap.size wx wy) : JO w B p q r p' q' r' x y lq lr q1 q2 b1 b2 zq zr b v wy :=
  ⟨h.1.keep hb (Nat.le_of_lt h.1.ba.2.2.2), fun i hi => (h.2 i hi).keep hb⟩
theorem JO.put (h : JO w B p q r p' q' r' x y lq lr q1 q2 b1 b2 zq zr b v wx) (i : Nat) {u : Value} (hu : GO B (.agg #[p, q, r]) (.agg #[p', q', r']) x y q1 q2 b1 b2 zq zr i u wx) : JO w B p q r p' q' r' x y lq lr q1 q2 b1 b2 zq zr (updB b i) (updV v (38 + i) u) wx := by
  refine ⟨h.1, fun j hj => ?_⟩
  unfold updB at hj
  unfold updV
  by_cases e : j = i
  · subst e
    rw [if_pos rfl]
    exact hu
  · rw [if_neg e] at hj
    rw [if_neg (by omega)]
    exact h.2 j hj
theorem JO.store2 (h : JO w B p q r p' q' r' x y lq lr q1 q2 b1 b2 zq zr b v wx) {s : Int} {neg : Bool} {A : Option Addr} {n c : Nat} (hu : RI wx s neg A n c zq) : JO w B p q r p' q' r' x y lq lr q1 q2 b1 b2 zq zr (updB b 12) v (set3 wx (B + 1 + 1) (.int .i64 s) (.bool neg) (.slice A n c)) := by
  refine ⟨h.1.put2 _ _ _, fun j hj => ?_⟩
  unfold updB at hj
  by_cases e : j = 12
  · subst e
    exact ⟨s, neg, A, n, c, (h.1.wq.set _ _ _).1, hu.set_3 h.1.wq _ _ _⟩
  · rw [if_neg e] at hj
    exact (h.2 j hj).put2 e h.1.wq _ _ _
theorem JO.store3 (h : JO w B p q r p' q' r' x y lq lr q1 q2 b1 b2 zq zr b v wx) {s : Int} {neg : Bool} {A : Option Addr} {n c : Nat} (hu : RI wx s neg A n c zr) : JO w B p q r p' q' r' x y lq lr q1 q2 b1 b2 zq zr (updB b 13) v (set3 wx (B + 1 + 1 + 1) (.int .i64 s) (.bool neg) (.slice A n c)) := by
  refine ⟨h.1.put3 _ _ _, fun j hj => ?_⟩
  unfold updB at hj
  by_cases e : j = 13
  · subst e
    exact ⟨s, neg, A, n, c, (h.1.wr.set _ _ _).1, hu.set_3 h.1.wr _ _ _⟩
  · rw [if_neg e] at hj
    exact (h.2 j hj).put3 e h.1.wr _ _ _
end

end Go.Proofs.YtabaknkjcoibpaaGreatDoor

namespace Go.Proofs.YtabaknkjcoibpaaGreatDoor
open Go.RowKit

theorem len_pos {l : List Nat} {x : Nat} (h : val l = x) (hx : 0 < x) : 0 < l.length := by
  rcases l with _ | ⟨d, l⟩
  · simp only [val] at h
    omega
  · simp

set_option maxRecDepth 100000 in
set_option maxHeartbeats 20000000 in
theorem rover_big (s s' : Int) (neg neg' : Bool) (A A' : Option Addr) (n c n' c' K : Nat) (z z' : Int) (w : World) (h : RI w s neg A n c z) (h' : RI w s' neg' A' n' c' z') (hK : K ≤ 250000) (hz : z.natAbs < Bs ^ K) (hz' : z'.natAbs < Bs ^ K) (h0 : z' ≠ 0)
    (hg : (((n : Int) == 0) = false) ∨ (((n : Int) == 0) = true ∧ ((n' : Int) == 0) = false)) :
    Calls Tryz.prog 153 #[.agg #[.int .i64 s, .bool neg, .slice A n c], .agg #[.int .i64 s', .bool neg', .slice A' n' c']] w (RetII (z.tdiv z') (z.tmod z') w) := by
  have hn := h.len hz
  have hn' := h'.len hz'
  have HL1 : Hid (∀ wx, Below w.heap.size w wx → Calls Tryz.prog 134 #[.agg #[.int .i64 s, .bool neg, .slice A n c]] wx (RetL (fun l => Nz l ∧ val l = z.natAbs) wx)) := fun wx hb => rlist_any s neg A n c z wx (h.keep hb) (by omega)
  have HL2 : Hid (∀ wx, Below w.heap.size w wx → Calls Tryz.prog 134 #[.agg #[.int .i64 s', .bool neg', .slice A' n' c']] wx (RetL (fun l => Nz l ∧ val l = z'.natAbs) wx)) := fun wx hb => rlist_any s' neg' A' n' c' z' wx (h'.keep hb) (by omega)
  obtain ⟨q1, hq1⟩ : ∃ q1, sgnI z = q1 := ⟨_, rfl⟩
  obtain ⟨q2, hq2⟩ : ∃ q2, sgnI z' = q2 := ⟨_, rfl⟩
  have HS1 : Hid (∀ wx, Below w.heap.size w wx → Calls Tryz.prog 108 #[.agg #[.int .i64 s, .bool neg, .slice A n c]] wx fun e w' => e = .returned (.int .i64 q1) ∧ Below wx.heap.size wx w') := fun wx hb => by
    rw [← hq1]; exact rsign_any s neg A n c z wx (h.keep hb) (by omega)
  have HS2 : Hid (∀ wx, Below w.heap.size w wx → Calls Tryz.prog 108 #[.agg #[.int .i64 s', .bool neg', .slice A' n' c']] wx fun e w' => e = .returned (.int .i64 q2) ∧ Below wx.heap.size wx w') := fun wx hb => by
    rw [← hq2]; exact rsign_any s' neg' A' n' c' z' wx (h'.keep hb) (by omega)
  obtain ⟨b1, hb1⟩ : ∃ b1, (q1 != q2) = b1 := ⟨_, rfl⟩
  obtain ⟨b2, hb2⟩ : ∃ b2, decide (q1 < 0) = b2 := ⟨_, rfl⟩
  obtain ⟨zq, hzq⟩ : ∃ zq, z.tdiv z' = zq := ⟨_, rfl⟩
  obtain ⟨zr, hzr⟩ : ∃ zr, z.tmod z' = zr := ⟨_, rfl⟩
  have HBB : Hid (∀ Q R : Nat, z.natAbs = Q * z'.natAbs + R → R < z'.natAbs → sgz b1 Q = zq ∧ sgz b2 R = zr) := fun Q R e1 e2 => by
    rw [← hb1, ← hb2, ← hq1, ← hq2, ← hzq, ← hzr]
    exact over_sgz h0 e1 e2
  have HZ0 : Hid (0 < z'.natAbs) := (by omega : 0 < z'.natAbs)
  have HB1 := Lib.hid hb1
  have HB2 := Lib.hid hb2
  have HZ1 := Lib.hid hz
  have HZ2 := Lib.hid hz'
  have HK := Lib.hid hK
  rw [hzq, hzr]
  clear h h' hn hn' hq1 hq2 hz hz' hK hb1 hb2 h0 hzq hzr
  go_enter Tryz.func153, Tryz.ntmps153
  go_upto_region 1 with fail
  obtain ⟨X, hX, hwX, hsX, ⟨k0, k1, k2, za⟩, ⟨j0, j1, j2, zb⟩, hW, hW'⟩ := boxesII w (.int .i64 s) (.bool neg) (.slice A n c) (.int .i64 s') (.bool neg') (.slice A' n' c')
  rw [hX]
  clear hX
  have HwX := Lib.hid hwX
  have HW := Lib.hid hW
  have HW' := Lib.hid hW'
  clear hsX hwX hW hW'
  go_cut [17] (fun t wx => t = .bool false ∧ X = wx)
  case first =>
    rcases hg with g1 | ⟨g1, g2⟩
    all_goals go_wp2_with fail
    all_goals go_meet
    all_goals exact ⟨rfl, rfl⟩
  case rest =>
    obtain ⟨rfl, rfl⟩ := hcut
    clear hg
    have HBa : Hid (B3 w.heap.size (.int .i64 s) (.bool neg) (.slice A n c) X) := ⟨k0, k1, k2, za⟩
    have HBb : Hid (B3 (w.heap.size + 1) (.int .i64 s') (.bool neg') (.slice A' n' c') X) := ⟨j0, j1, j2, zb⟩
    go_upto_region 3 with fail
    go_region_held3 (fun w' => w'.cell? ⟨w.heap.size, 0, none⟩ = some (.int .i64 s) ∧ w'.cell? ⟨w.heap.size, 1, none⟩ = some (.bool neg) ∧ w'.cell? ⟨w.heap.size, 2, none⟩ = some (.slice A n c) ∧ w'.cell? ⟨w.heap.size + 1, 0, none⟩ = some (.int .i64 s') ∧ w'.cell? ⟨w.heap.size + 1, 1, none⟩ = some (.bool neg') ∧ w'.cell? ⟨w.heap.size + 1, 2, none⟩ = some (.slice A' n' c')) (simp [go_sem, *])
      (first
        | (go_at_call 134; (with_reducible refine (HL1.out _ (by repeat (first | exact HwX.out | exact HW1.out | refine Below.drew ?_))).mono ?_); rintro e w1 ⟨v1, l1, rfl, hl1, hp1, hB1⟩; obtain ⟨A1, c1, rfl, hlc1, hdl1, hC1⟩ := hl1; (have R1 : Below X.heap.size X w1 := by first | exact hB1 | exact below_undrew' hB1); have C1 := (bcell R1).1; have HR1 := Lib.hid R1; have HW1 := Lib.hid (HwX.out.trans (R1.mono HwX.out.size)); have HC1a := Lib.hid hC1; have HDl1 := Lib.hid hdl1; have HLC1 := Lib.hid hlc1; have HP1 := Lib.hid hp1; clear R1 hC1 hdl1 hlc1 hp1 hB1)
        | (go_at_call 134; (with_reducible refine (HL2.out _ (by repeat (first | exact HwX.out | exact HW1.out | refine Below.drew ?_))).mono ?_); rintro e w2 ⟨v2, l2, rfl, hl2, hp2, hB2⟩; obtain ⟨A2, c2, rfl, hlc2, hdl2, hC2⟩ := hl2; (have R2 : Below w1.heap.size w1 w2 := by first | exact hB2 | exact below_undrew' hB2); have HR2 := Lib.hid (stepB HR1.out R2); have C2 := (bcell HR2.out).1; have HC1 := Lib.hid (HC1a.out.keep R2); have HC2 := Lib.hid hC2; have HDl2 := Lib.hid hdl2; have HP2 := Lib.hid hp2; clear C1 R2 hC2 hdl2 hlc2 hp2 hB2)
        | (go_at_call 190; (with_reducible refine (divided_any A1 A2 l1.length l2.length c1 c2 l1 l2 _ (Nat.le_trans (len_of_val HP1.out.1 HP1.out.2 HZ1.out) HK.out) HLC1.out (len_pos HP2.out.2 HZ0.out) rfl rfl (by first | exact HC1.out | exact Lc.drew HC1.out) (by first | exact HC2.out | exact Lc.drew HC2.out) HDl1.out HDl2.out HP1.out.1 HP2.out.1).mono ?_); rintro e w3 ⟨x, y, lq, lr, rfl, hx, hy, hval, hlt, hlq, hlr, hB3⟩; (have R3 : Below w2.heap.size w2 w3 := by first | exact hB3 | exact below_undrew' hB3); have HR3 := Lib.hid (stepB HR2.out R3); have C3 := (bcell HR3.out).1; have HLX := Lib.hid hx; have HLY := Lib.hid hy; have HV := Lib.hid hval; have HLT := Lib.hid hlt; clear C2 hx hy hval hlt hlq hlr hB3 R3))
    have HZZ := Lib.hid (HBB.out _ _ (by rw [← HP1.out.2, ← HP2.out.2]; exact HV.out) (by rw [← HP2.out.2]; exact HLT.out))
    have HMQ : Hid (∀ wx, Ls wx x lq → Calls Tryz.prog 135 #[.bool b1, x] wx (RetI zq wx)) := fun wx hx => by
      obtain ⟨Aq, cq, ex, hc, hd, hl⟩ := hx
      rw [ex, ← HZZ.out.1]
      exact made_any b1 Aq lq.length cq lq wx rfl hc.1 hc.2 hd hl
    have HMR : Hid (∀ wx, Ls wx y lr → Calls Tryz.prog 135 #[.bool b2, y] wx (RetI zr wx)) := fun wx hx => by
      obtain ⟨Aq, cq, ex, hc, hd, hl⟩ := hx
      rw [ex, ← HZZ.out.2]
      exact made_any b2 Aq lr.length cq lr wx rfl hc.1 hc.2 hd hl
    have HF : Hid (Fix w w.heap.size (.int .i64 s) (.bool neg) (.slice A n c) (.int .i64 s') (.bool neg') (.slice A' n' c') x y lq lr w3) := ⟨HwX.out.trans (HR3.out.mono HwX.out.size), HBa.out.keep HR3.out, HBb.out.keep HR3.out, HW.out.keep HR3.out, HW'.out.keep HR3.out, HLX.out, HLY.out⟩
    clear k0 k1 k2 za j0 j1 j2 zb C3
    clear HBB HZ0 HZ1 HZ2 HK HwX HW HW' HBa HBb HR1 HW1 HC1a HDl1 HLC1 HP1 HR2 HC1 HC2 HDl2 HP2 HR3 HLX HLY HV HLT HZZ HL1 HL2
    go_upto_region 4 with fail
    refine wp_region_inv3 [38, 39, 40, 41, 42, 43, 44, 45, 46, 47, 48, 49] (JO w w.heap.size (.int .i64 s) (.bool neg) (.slice A n c) (.int .i64 s') (.bool neg') (.slice A' n' c') x y lq lr q1 q2 b1 b2 zq zr) (by kernel_rfl) (by kernel_rfl) (by kernel_rfl) ?_ ?_ ?_
    · exact ⟨⟨Below.drew HF.out.below, HF.out.ba, HF.out.bb, HF.out.wq, HF.out.wr, HF.out.lx, HF.out.ly⟩, fun _ h => Bool.noConfusion h⟩
    · intro i b v wx o T' K ho hdep hb hJ hin hout hK hK'
      have hi : i < 14 := (Array.getElem?_eq_some_iff.1 ho).1
      have q38 := hin 38 (by decide)
      have q39 := hin 39 (by decide)
      have q40 := hin 40 (by decide)
      have q41 := hin 41 (by decide)
      have q42 := hin 42 (by decide)
      have q43 := hin 43 (by decide)
      have q44 := hin 44 (by decide)
      have q45 := hin 45 (by decide)
      have q46 := hin 46 (by decide)
      have q47 := hin 47 (by decide)
      have q48 := hin 48 (by decide)
      have q49 := hin 49 (by decide)
      have t2 : T'[2]? = some (.pointer (some ⟨w.heap.size, 0, none⟩)) := (hout 2 (by decide)).trans rfl
      have t3 : T'[3]? = some (.pointer (some ⟨w.heap.size + 1, 0, none⟩)) := (hout 3 (by decide)).trans rfl
      have t4 : T'[4]? = some (.pointer (some ⟨w.heap.size + 1 + 1, 0, none⟩)) := (hout 4 (by decide)).trans rfl
      have t5 : T'[5]? = some (.pointer (some ⟨w.heap.size + 1 + 1 + 1, 0, none⟩)) := (hout 5 (by decide)).trans rfl
      have t6 : T'[6]? = some (x) := (hout 6 (by decide)).trans rfl
      have t7 : T'[7]? = some (y) := (hout 7 (by decide)).trans rfl
      obtain ⟨c0, c1, c2, c3⟩ := hJ.1.ba
      obtain ⟨d0, d1, d2, d3⟩ := hJ.1.bb
      clear hin hout
      have HJ := Lib.hid hJ
      have HX := Lib.hid hJ.1
      have HD := Lib.hid hdep
      clear hJ hdep hb
      rcases (by omega : i = 0 ∨ i = 1 ∨ i = 2 ∨ i = 3 ∨ i = 4 ∨ i = 5 ∨ i = 6 ∨ i = 7 ∨ i = 8 ∨ i = 9 ∨ i = 10 ∨ i = 11 ∨ i = 12 ∨ i = 13) with rfl | rfl | rfl | rfl | rfl | rfl | rfl | rfl | rfl | rfl | rfl | rfl | rfl | rfl
      · obtain rfl := Option.some.inj ho
        clear q38 q39 q40 q41 q42 q43 q44 q45 q46 q47 q48 q49 t3 t4 t5 t6 t7 d0 d1 d2 d3
        clear ho hi
        go_simp
        exact hK 38 _ _ (by decide) (HJ.out.put 0 rfl)
      · obtain rfl := Option.some.inj ho
        clear q39 q40 q41 q42 q43 q44 q45 q46 q47 q48 q49 t2 t3 t4 t5 t6 t7 c0 c1 c2 c3 d0 d1 d2 d3
        rw [show v 38 = .agg #[.int .i64 s, .bool neg, .slice A n c] from HJ.out.2 0 (HD.out ⟨0, .data⟩ (by simp) rfl)] at q38
        clear ho hi
        go_simp
        (with_reducible refine (HS1.out _ HX.out.below).mono ?_)
        rintro e w2 ⟨rfl, hB⟩
        exact hK 39 _ _ (by decide) ((HJ.out.keep hB).put 1 rfl)
      · obtain rfl := Option.some.inj ho
        clear q38 q39 q40 q41 q42 q43 q44 q45 q46 q47 q48 q49 t2 t4 t5 t6 t7 c0 c1 c2 c3
        clear ho hi
        go_simp
        exact hK 40 _ _ (by decide) (HJ.out.put 2 rfl)
      · obtain rfl := Option.some.inj ho
        clear q38 q39 q41 q42 q43 q44 q45 q46 q47 q48 q49 t2 t3 t4 t5 t6 t7 c0 c1 c2 c3 d0 d1 d2 d3
        rw [show v 40 = .agg #[.int .i64 s', .bool neg', .slice A' n' c'] from HJ.out.2 2 (HD.out ⟨2, .data⟩ (by simp) rfl)] at q40
        clear ho hi
        go_simp
        (with_reducible refine (HS2.out _ HX.out.below).mono ?_)
        rintro e w2 ⟨rfl, hB⟩
        exact hK 41 _ _ (by decide) ((HJ.out.keep hB).put 3 rfl)
      · obtain rfl := Option.some.inj ho
        clear q38 q40 q42 q43 q44 q45 q46 q47 q48 q49 t2 t3 t4 t5 t6 t7 c0 c1 c2 c3 d0 d1 d2 d3
        rw [show v 39 = .int .i64 q1 from HJ.out.2 1 (HD.out ⟨1, .data⟩ (by simp) rfl)] at q39
        rw [show v 41 = .int .i64 q2 from HJ.out.2 3 (HD.out ⟨3, .data⟩ (by simp) rfl)] at q41
        clear ho hi
        go_simp
        refine hK 42 _ _ (by decide) (HJ.out.put 4 ?_)
        show _ = Value.bool b1
        rw [← HB1.out]
        try rfl
      · obtain rfl := Option.some.inj ho
        clear q38 q39 q40 q41 q42 q43 q44 q45 q46 q47 q48 q49 t2 t3 t4 t5 t7 c0 c1 c2 c3 d0 d1 d2 d3
        clear ho hi
        go_simp
        exact hK 43 _ _ (by decide) (HJ.out.put 5 rfl)
      · obtain rfl := Option.some.inj ho
        clear q38 q39 q40 q41 q44 q45 q46 q47 q48 q49 t2 t3 t4 t5 t6 t7 c0 c1 c2 c3 d0 d1 d2 d3
        rw [show v 42 = .bool b1 from HJ.out.2 4 (HD.out ⟨4, .data⟩ (by simp) rfl)] at q42
        rw [show v 43 = x from HJ.out.2 5 (HD.out ⟨5, .data⟩ (by simp) rfl)] at q43
        clear ho hi
        go_simp
        (with_reducible refine (HMQ.out _ HX.out.lx).mono ?_)
        rintro e w2 ⟨s2, n2, A2, m2, c2, rfl, hRI, hB⟩
        exact hK 44 _ _ (by decide) ((HJ.out.keep hB).put 6 ⟨s2, n2, A2, m2, c2, rfl, hRI⟩)
      · obtain rfl := Option.some.inj ho
        clear q38 q39 q40 q41 q42 q43 q44 q45 q46 q47 q48 q49 t3 t4 t5 t6 t7 d0 d1 d2 d3
        clear ho hi
        go_simp
        exact hK 45 _ _ (by decide) (HJ.out.put 7 rfl)
      · obtain rfl := Option.some.inj ho
        clear q38 q39 q40 q41 q42 q43 q44 q46 q47 q48 q49 t2 t3 t4 t5 t6 t7 c0 c1 c2 c3 d0 d1 d2 d3
        rw [show v 45 = .agg #[.int .i64 s, .bool neg, .slice A n c] from HJ.out.2 7 (HD.out ⟨7, .data⟩ (by simp) rfl)] at q45
        clear ho hi
        go_simp
        (with_reducible refine (HS1.out _ HX.out.below).mono ?_)
        rintro e w2 ⟨rfl, hB⟩
        exact hK 46 _ _ (by decide) ((HJ.out.keep hB).put 8 rfl)
      · obtain rfl := Option.some.inj ho
        clear q38 q39 q40 q41 q42 q43 q44 q45 q47 q48 q49 t2 t3 t4 t5 t6 t7 c0 c1 c2 c3 d0 d1 d2 d3
        rw [show v 46 = .int .i64 q1 from HJ.out.2 8 (HD.out ⟨8, .data⟩ (by simp) rfl)] at q46
        clear ho hi
        go_simp
        refine hK 47 _ _ (by decide) (HJ.out.put 9 ?_)
        show _ = Value.bool b2
        rw [← HB2.out]
        try rfl
      · obtain rfl := Option.some.inj ho
        clear q38 q39 q40 q41 q42 q43 q44 q45 q46 q47 q48 q49 t2 t3 t4 t5 t6 c0 c1 c2 c3 d0 d1 d2 d3
        clear ho hi
        go_simp
        exact hK 48 _ _ (by decide) (HJ.out.put 10 rfl)
      · obtain rfl := Option.some.inj ho
        clear q38 q39 q40 q41 q42 q43 q44 q45 q46 q49 t2 t3 t4 t5 t6 t7 c0 c1 c2 c3 d0 d1 d2 d3
        rw [show v 47 = .bool b2 from HJ.out.2 9 (HD.out ⟨9, .data⟩ (by simp) rfl)] at q47
        rw [show v 48 = y from HJ.out.2 10 (HD.out ⟨10, .data⟩ (by simp) rfl)] at q48
        clear ho hi
        go_simp
        (with_reducible refine (HMR.out _ HX.out.ly).mono ?_)
        rintro e w2 ⟨s2, n2, A2, m2, c2, rfl, hRI, hB⟩
        exact hK 49 _ _ (by decide) ((HJ.out.keep hB).put 11 ⟨s2, n2, A2, m2, c2, rfl, hRI⟩)
      · obtain rfl := Option.some.inj ho
        clear q38 q39 q40 q41 q42 q43 q45 q46 q47 q48 q49 t2 t3 t5 t6 t7 c0 c1 c2 c3 d0 d1 d2 d3
        obtain ⟨s2, n2, A2, m2, c2, e2, hRI⟩ : IV wx (v 44) zq := HJ.out.2 6 (HD.out ⟨6, .data⟩ (by simp) rfl)
        rw [e2] at q44
        have HR := Lib.hid (HJ.out.store2 hRI)
        obtain ⟨⟨p0, p1, p2, p3, p4, p5⟩, p6, p7, p8, -⟩ := HJ.out.1.wq
        clear e2 hRI
        clear ho hi
        go_simp
        exact hK' _ HR.out
      · obtain rfl := Option.some.inj ho
        clear q38 q39 q40 q41 q42 q43 q44 q45 q46 q47 q48 t2 t3 t4 t6 t7 c0 c1 c2 c3 d0 d1 d2 d3
        obtain ⟨s2, n2, A2, m2, c2, e2, hRI⟩ : IV wx (v 49) zr := HJ.out.2 11 (HD.out ⟨11, .data⟩ (by simp) rfl)
        rw [e2] at q49
        have HR := Lib.hid (HJ.out.store3 hRI)
        obtain ⟨⟨p0, p1, p2, p3, p4, p5⟩, p6, p7, p8, -⟩ := HJ.out.1.wr
        clear e2 hRI
        clear ho hi
        go_simp
        exact hK' _ HR.out
    · intro b v wx hall hJ
      obtain ⟨s2, n2, A2, m2, c2, ⟨e0, e1, e2, -⟩, hRI⟩ : BI wx (w.heap.size + 1 + 1) zq := hJ.2 12 (hall 12 (by decide))
      obtain ⟨s3, n3, A3, m3, c3, ⟨f0, f1, f2, -⟩, hRI'⟩ : BI wx (w.heap.size + 1 + 1 + 1) zr := hJ.2 13 (hall 13 (by decide))
      have HB := Lib.hid hJ.1.below
      have HRI := Lib.hid hRI
      have HRI' := Lib.hid hRI'
      simp only [over, List.setIfInBounds_toArray, List.set_cons_zero, List.set_cons_succ]
      clear hall hJ hRI hRI'
      generalize v 38 = v38
      generalize v 39 = v39
      generalize v 40 = v40
      generalize v 41 = v41
      generalize v 42 = v42
      generalize v 43 = v43
      generalize v 44 = v44
      generalize v 45 = v45
      generalize v 46 = v46
      generalize v 47 = v47
      generalize v 48 = v48
      generalize v 49 = v49
      go_wp2_with fail
      exact bodyPost_ret (v := .tuple #[.agg #[.int .i64 s2, .bool n2, .slice A2 m2 c2], .agg #[.int .i64 s3, .bool n3, .slice A3 m3 c3]]) (by simp [results, Tryz.results153, go_sem, *]) rfl ⟨s2, n2, A2, m2, c2, s3, n3, A3, m3, c3, rfl, HRI.out, HRI'.out, HB.out⟩

theorem rover_any (s s' : Int) (neg neg' : Bool) (A A' : Option Addr) (n c n' c' K : Nat) (z z' : Int) (w : World) (h : RI w s neg A n c z) (h' : RI w s' neg' A' n' c' z') (hK : K ≤ 250000) (hz : z.natAbs < Bs ^ K) (hz' : z'.natAbs < Bs ^ K) (h0 : z' ≠ 0) :
    Calls Tryz.prog 153 #[.agg #[.int .i64 s, .bool neg, .slice A n c], .agg #[.int .i64 s', .bool neg', .slice A' n' c']] w (RetII (z.tdiv z') (z.tmod z') w) := by
  by_cases hn : n = 0
  · have g1 : ((n : Int) == 0) = true := by rw [hn]; rfl
    by_cases hn' : n' = 0
    · obtain ⟨l, -, -, -, -, ⟨-, rfl, rfl, h1⟩ | ⟨h5, _⟩⟩ := h
      · obtain ⟨l', -, -, -, -, ⟨-, rfl, rfl, -⟩ | ⟨h5, _⟩⟩ := h'
        · subst hn hn'
          exact rover_small s s' A A' c c' w h1 h0
        · omega
      · omega
    · exact rover_big s s' neg neg' A A' n c n' c' K z z' w h h' hK hz hz' h0 (Or.inr ⟨g1, by rw [beq_eq_false_iff_ne]; omega⟩)
  · exact rover_big s s' neg neg' A A' n c n' c' K z z' w h h' hK hz hz' h0 (Or.inl (by rw [beq_eq_false_iff_ne]; omega))

end Go.Proofs.YtabaknkjcoibpaaGreatDoor
