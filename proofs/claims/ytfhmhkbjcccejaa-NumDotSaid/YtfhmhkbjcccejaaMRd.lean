/- Fractions of the reference in memory: Make. A region whose order is drawn, where each operation makes one value: what each value is, whatever the order; then, maybe, one last store. Fractions of the reference: values, what functions return, boxes. Fractions of the reference: product, quotient, sum. Fractions of the reference: the negative, the difference, the sign, the order; numbers as fractions. Fractions of the reference: the number of a fraction. -/
import Derived.Test.YtfhmhkbjcccejaaMRc
import Derived.Test.YtfhmhkbjcccejaaMInv2
import Derived.Below
import Derived.Test.YtfhmhkbjcccejaaMNa

namespace Go.Proofs.Ytfhmhkbjcccejaa
open Go.RowKit

theorem RI.drew {w : World} {s : Int} {neg : Bool} {A : Option Addr} {n c : Nat} {z : Int} (h : RI w s neg A n c z) : RI w.drew s neg A n c z := h
/-- A box of six cells that may be written. -/
def W6 (g : Nat) (w : World) : Prop := (∃ a b c d e f, w.cell? ⟨g, 0, none⟩ = some a ∧ w.cell? ⟨g, 1, none⟩ = some b ∧ w.cell? ⟨g, 2, none⟩ = some c ∧ w.cell? ⟨g, 3, none⟩ = some d ∧ w.cell? ⟨g, 4, none⟩ = some e ∧ w.cell? ⟨g, 5, none⟩ = some f) ∧
  (w.frozen? ⟨g, 0, none⟩ = false ∧ w.frozen? ⟨g, 1, none⟩ = false ∧ w.frozen? ⟨g, 2, none⟩ = false ∧ w.frozen? ⟨g, 3, none⟩ = false ∧ w.frozen? ⟨g, 4, none⟩ = false ∧ w.frozen? ⟨g, 5, none⟩ = false) ∧ Bx w g 38
theorem W6.of {g : Nat} {w w' : World} (h : W6 g w) (hc : ∀ o, w'.cell? ⟨g, o, none⟩ = w.cell? ⟨g, o, none⟩) (hf : ∀ o, w'.frozen? ⟨g, o, none⟩ = w.frozen? ⟨g, o, none⟩) (hx : Bx w' g 38) : W6 g w' := by
  obtain ⟨⟨a, b, c, d, e, f, h0, h1, h2, h3, h4, h5⟩, ⟨f0, f1, f2, f3, f4, f5⟩, -⟩ := h
  exact ⟨⟨a, b, c, d, e, f, (hc _).trans h0, (hc _).trans h1, (hc _).trans h2, (hc _).trans h3, (hc _).trans h4, (hc _).trans h5⟩, ⟨(hf _).trans f0, (hf _).trans f1, (hf _).trans f2, (hf _).trans f3, (hf _).trans f4, (hf _).trans f5⟩, hx⟩
theorem W6.keep {g : Nat} {w w' : World} (h : W6 g w) (hB : Below w.heap.size w w') : W6 g w' :=
  h.of (fun _ => hB.cell (p := ⟨g, _, none⟩) h.2.2.lt) (fun _ => hB.frozen (p := ⟨g, _, none⟩) h.2.2.lt) (h.2.2.keep hB)
theorem W6.far {g k : Nat} {w : World} (h : W6 g w) (hk : g ≠ k) (o : Nat) (u : Value) : W6 g (w.setCell ⟨k, o, none⟩ u) := by
  have e : (w.setCell ⟨k, o, none⟩ u).heap[g]? = w.heap[g]? := Below.heap_setCell _ _ _ _ hk
  exact h.of (fun _ => World.cell?_of_block (w := w) (a := ⟨g, _, none⟩) e) (fun _ => World.frozen?_of_block (w := w) (a := ⟨g, _, none⟩) e) (h.2.2.set _ _ _)
theorem W6.set_3 {g k : Nat} {w : World} (h : W6 g w) (hk : g ≠ k) (a b c : Value) : W6 g (set3 w k a b c) := ((h.far hk _ _).far hk _ _).far hk _ _
theorem Drn.w6 {w w' : World} (h : Drn w w') {g : Nat} (hd : W6 g w) : W6 g w' := by obtain ⟨q, rfl⟩ := h; exact hd
theorem W6.new (w : World) (a b c d e f : Value) {g : Nat} (hg : g = w.heap.size) : W6 g (w.alloc (.cells #[a, b, c, d, e, f] 38)) := by
  subst hg
  refine ⟨⟨a, b, c, d, e, f, ?_, ?_, ?_, ?_, ?_, ?_⟩, ⟨?_, ?_, ?_, ?_, ?_, ?_⟩, Bx.new w _ 38⟩ <;> simp [go_sem]

/-- The state of Make: its two integers. -/
structure MkL (w : World) (p q : Int) (wr : World) : Prop where
  below : Below w.heap.size w wr
  wa : W3 w.heap.size wr
  wb : W3 (w.heap.size + 1) wr
  wc : W6 (w.heap.size + 1 + 1) wr
  ba : BI wr w.heap.size p
  bb : BI wr (w.heap.size + 1) q
theorem MkL.keep {w wr wx : World} {p q : Int} (h : MkL w p q wr) (hb : Below wr.heap.size wr wx) : MkL w p q wx :=
  ⟨h.below.trans (hb.mono h.below.size), h.wa.keep hb, h.wb.keep hb, h.wc.keep hb, h.ba.keep hb, h.bb.keep hb⟩
theorem MkL.set_a {w wr : World} {p q z : Int} (h : MkL w p q wr) {s : Int} {neg : Bool} {A : Option Addr} {n c : Nat} (hz : RI wr s neg A n c z) : MkL w z q (set3 wr w.heap.size (.int .i64 s) (.bool neg) (.slice A n c)) :=
  ⟨set3_below h.below (Nat.le_refl _) _ _ _, (h.wa.set _ _ _).2, h.wb.set_3 (by omega) _ _ _, h.wc.set_3 (by omega) _ _ _, ⟨s, neg, A, n, c, (h.wa.set _ _ _).1, hz.set_3 h.wa _ _ _⟩, h.bb.set_3 (by omega) h.wa _ _ _⟩
theorem MkL.set_b {w wr : World} {p q z : Int} (h : MkL w p q wr) {s : Int} {neg : Bool} {A : Option Addr} {n c : Nat} (hz : RI wr s neg A n c z) : MkL w p z (set3 wr (w.heap.size + 1) (.int .i64 s) (.bool neg) (.slice A n c)) :=
  ⟨set3_below h.below (Nat.le_succ _) _ _ _, h.wa.set_3 (by omega) _ _ _, (h.wb.set _ _ _).2, h.wc.set_3 (by omega) _ _ _, h.ba.set_3 (by omega) h.wb _ _ _, ⟨s, neg, A, n, c, (h.wb.set _ _ _).1, hz.set_3 h.wb _ _ _⟩⟩
theorem MkL.drn {w wr wx : World} {p q : Int} (h : MkL w p q wr) (hd : Drn wr wx) : MkL w p q wx :=
  ⟨h.below.trans (hd.below _), hd.w3 h.wa, hd.w3 h.wb, hd.w6 h.wc, hd.bi h.ba, hd.bi h.bb⟩

/-- What Make returns. -/
def RetRt (p q : Int) (w : World) (e : Ending) (w' : World) : Prop :=
  ∃ s neg A n c s' neg' A' n' c', e = .returned (.agg #[.int .i64 s, .bool neg, .slice A n c, .int .i64 s', .bool neg', .slice A' n' c']) ∧ RI w' s neg A n c p ∧ RI w' s' neg' A' n' c' q ∧ Below w.heap.size w w'

/-- The store of six cells. -/
def set6 (w : World) (g : Nat) (a b c d e f : Value) : World := (((((w.setCell ⟨g, 0, none⟩ a).setCell ⟨g, 1, none⟩ b).setCell ⟨g, 2, none⟩ c).setCell ⟨g, 3, none⟩ d).setCell ⟨g, 4, none⟩ e).setCell ⟨g, 5, none⟩ f
theorem RI.set_6 {w : World} {s : Int} {neg : Bool} {A : Option Addr} {n c : Nat} {z : Int} (h : RI w s neg A n c z) {g : Nat} (hx : Bx w g 38) (p q r p' q' r' : Value) : RI (set6 w g p q r p' q' r') s neg A n c z :=
  (((((h.set hx (by decide) _ _).set (hx.set _ _ _) (by decide) _ _).set ((hx.set _ _ _).set _ _ _) (by decide) _ _).set (((hx.set _ _ _).set _ _ _).set _ _ _) (by decide) _ _).set ((((hx.set _ _ _).set _ _ _).set _ _ _).set _ _ _) (by decide) _ _).set (((((hx.set _ _ _).set _ _ _).set _ _ _).set _ _ _).set _ _ _) (by decide) _ _
theorem set6_below {base : Nat} {X w : World} (h : Below base X w) {g : Nat} (hg : base ≤ g) (a b c d e f : Value) : Below base X (set6 w g a b c d e f) := (((((h.setCell hg _).setCell hg _).setCell hg _).setCell hg _).setCell hg _).setCell hg _
theorem retRt_box {w w1 wf : World} {p q s s' : Int} {neg neg' : Bool} {A A' : Option Addr} {n c n' c' g : Nat} (hb : Below w.heap.size w w1) (hg : w.heap.size ≤ g) (h : RI w1 s neg A n c p) (h' : RI w1 s' neg' A' n' c' q) (hx : Bx w1 g 38)
    (hw : Drn (set6 w1 g (.int .i64 s) (.bool neg) (.slice A n c) (.int .i64 s') (.bool neg') (.slice A' n' c')) wf) : RetRt p q w (.returned (.agg #[.int .i64 s, .bool neg, .slice A n c, .int .i64 s', .bool neg', .slice A' n' c'])) wf :=
  ⟨s, neg, A, n, c, s', neg', A', n', c', rfl, (h.set_6 hx _ _ _ _ _ _).drn hw, (h'.set_6 hx _ _ _ _ _ _).drn hw, (set6_below hb hg _ _ _ _ _ _).trans (hw.below _)⟩

theorem Drn.same (w : World) : Drn w w := ⟨0, rfl⟩
theorem retRt_box0 {w w1 : World} {p q s s' : Int} {neg neg' : Bool} {A A' : Option Addr} {n c n' c' g : Nat} (hb : Below w.heap.size w w1) (hg : w.heap.size ≤ g) (h : RI w1 s neg A n c p) (h' : RI w1 s' neg' A' n' c' q) (hx : Bx w1 g 38) :
    RetRt p q w (.returned (.agg #[.int .i64 s, .bool neg, .slice A n c, .int .i64 s', .bool neg', .slice A' n' c'])) (set6 w1 g (.int .i64 s) (.bool neg) (.slice A n c) (.int .i64 s') (.bool neg') (.slice A' n' c')) := retRt_box hb hg h h' hx (Drn.same _)

/-- The two signs are turned: what slot i holds once operation i has come up. -/
def GN (w : World) (P Q : Value) (p q : Int) (i : Nat) (u : Value) (wx : World) : Prop :=
  match i with
  | 0 => u = P
  | 1 => IV wx u p
  | 2 => u = Q
  | 3 => IV wx u q
  | 4 => BI wx w.heap.size p
  | 5 => BI wx (w.heap.size + 1) q
  | _ => True
/-- What does not change. -/
structure FN6 (w : World) (z z' : Int) (s1 s2 : Int) (n1 n2 : Bool) (A1 A2 : Option Addr) (m1 c1 m2 c2 : Nat) (wx : World) : Prop where
  below : Below w.heap.size w wx
  wa : W3 w.heap.size wx
  wb : W3 (w.heap.size + 1) wx
  wc : W6 (w.heap.size + 1 + 1) wx
  ra : RI wx s1 n1 A1 m1 c1 z
  rb : RI wx s2 n2 A2 m2 c2 z'
section
variable {w wx wy : World} {z z' p q s1 s2 : Int} {n1 n2 : Bool} {A1 A2 : Option Addr} {m1 c1 m2 c2 : Nat} {P Q : Value} {b : Nat → Bool} {v : Nat → Value}
theorem FN6.keep (h : FN6 w z z' s1 s2 n1 n2 A1 A2 m1 c1 m2 c2 wx) (hb : Below wx.heap.size wx wy) : FN6 w z z' s1 s2 n1 n2 A1 A2 m1 c1 m2 c2 wy :=
  ⟨h.below.trans (hb.mono h.below.size), h.wa.keep hb, h.wb.keep hb, h.wc.keep hb, h.ra.keep hb, h.rb.keep hb⟩
theorem FN6.set_a (h : FN6 w z z' s1 s2 n1 n2 A1 A2 m1 c1 m2 c2 wx) (a c d : Value) : FN6 w z z' s1 s2 n1 n2 A1 A2 m1 c1 m2 c2 (set3 wx w.heap.size a c d) :=
  ⟨set3_below h.below (Nat.le_refl _) _ _ _, (h.wa.set _ _ _).2, h.wb.set_3 (by omega) _ _ _, h.wc.set_3 (by omega) _ _ _, h.ra.set_3 h.wa _ _ _, h.rb.set_3 h.wa _ _ _⟩
theorem FN6.set_b (h : FN6 w z z' s1 s2 n1 n2 A1 A2 m1 c1 m2 c2 wx) (a c d : Value) : FN6 w z z' s1 s2 n1 n2 A1 A2 m1 c1 m2 c2 (set3 wx (w.heap.size + 1) a c d) :=
  ⟨set3_below h.below (Nat.le_succ _) _ _ _, h.wa.set_3 (by omega) _ _ _, (h.wb.set _ _ _).2, h.wc.set_3 (by omega) _ _ _, h.ra.set_3 h.wb _ _ _, h.rb.set_3 h.wb _ _ _⟩
theorem GN.keep {i : Nat} {u : Value} (h : GN w P Q p q i u wx) (hb : Below wx.heap.size wx wy) : GN w P Q p q i u wy := by
  by_cases h6 : i < 6
  · rcases (by omega : i = 0 ∨ i = 1 ∨ i = 2 ∨ i = 3 ∨ i = 4 ∨ i = 5) with rfl | rfl | rfl | rfl | rfl | rfl
    all_goals first | exact IV.keep h hb | exact BI.keep h hb | exact h
  · obtain ⟨k, rfl⟩ : ∃ k, i = k + 6 := ⟨i - 6, by omega⟩
    exact trivial
theorem GN.set_a {i : Nat} {u : Value} (h : GN w P Q p q i u wx) (hi : i ≠ 4) (hw : W3 w.heap.size wx) (a c d : Value) : GN w P Q p q i u (set3 wx w.heap.size a c d) := by
  by_cases h6 : i < 6
  · rcases (by omega : i = 0 ∨ i = 1 ∨ i = 2 ∨ i = 3 ∨ i = 4 ∨ i = 5) with rfl | rfl | rfl | rfl | rfl | rfl
    all_goals first | exact IV.set_3 h hw _ _ _ | exact BI.set_3 h (by omega) hw _ _ _ | exact (hi rfl).elim | exact h
  · obtain ⟨k, rfl⟩ : ∃ k, i = k + 6 := ⟨i - 6, by omega⟩
    exact trivial
theorem GN.set_b {i : Nat} {u : Value} (h : GN w P Q p q i u wx) (hi : i ≠ 5) (hw : W3 (w.heap.size + 1) wx) (a c d : Value) : GN w P Q p q i u (set3 wx (w.heap.size + 1) a c d) := by
  by_cases h6 : i < 6
  · rcases (by omega : i = 0 ∨ i = 1 ∨ i = 2 ∨ i = 3 ∨ i = 4 ∨ i = 5) with rfl | rfl | rfl | rfl | rfl | rfl
    all_goals first | exact IV.set_3 h hw _ _ _ | exact BI.set_3 h (by omega) hw _ _ _ | exact (hi rfl).elim | exact h
  · obtain ⟨k, rfl⟩ : ∃ k, i = k + 6 := ⟨i - 6, by omega⟩
    exact trivial
end

/-- What has come up and what it has made. -/
structure JN (w : World) (z z' p q : Int) (s1 s2 : Int) (n1 n2 : Bool) (A1 A2 : Option Addr) (m1 c1 m2 c2 : Nat) (b : Nat → Bool) (v : Nat → Value) (wx : World) : Prop where
  fix : FN6 w z z' s1 s2 n1 n2 A1 A2 m1 c1 m2 c2 wx
  ba : b 4 = false → B3 w.heap.size (.int .i64 s1) (.bool n1) (.slice A1 m1 c1) wx
  bb : b 5 = false → B3 (w.heap.size + 1) (.int .i64 s2) (.bool n2) (.slice A2 m2 c2) wx
  f4 : b 4 = true → b 0 = true
  f5 : b 5 = true → b 2 = true
  all : ∀ i, b i = true → GN w (.agg #[.int .i64 s1, .bool n1, .slice A1 m1 c1]) (.agg #[.int .i64 s2, .bool n2, .slice A2 m2 c2]) p q i (v (9 + i)) wx
theorem upd_same {b : Nat → Bool} {i : Nat} : updB b i i = true := by unfold updB; rw [if_pos rfl]
theorem upd_other {b : Nat → Bool} {i j : Nat} (h : j ≠ i) : updB b i j = b j := by unfold updB; rw [if_neg h]
theorem upd_true {b : Nat → Bool} {i j : Nat} (h : b j = true) : updB b i j = true := by
  unfold updB
  split
  · rfl
  · exact h
section
variable {w wx wy : World} {z z' p q s1 s2 : Int} {n1 n2 : Bool} {A1 A2 : Option Addr} {m1 c1 m2 c2 : Nat} {b : Nat → Bool} {v : Nat → Value}
theorem JN.keep (h : JN w z z' p q s1 s2 n1 n2 A1 A2 m1 c1 m2 c2 b v wx) (hb : Below wx.heap.size wx wy) : JN w z z' p q s1 s2 n1 n2 A1 A2 m1 c1 m2 c2 b v wy :=
  ⟨h.fix.keep hb, fun k => (h.ba k).keep hb, fun k => (h.bb k).keep hb, h.f4, h.f5, fun i hi => (h.all i hi).keep hb⟩
theorem JN.put (h : JN w z z' p q s1 s2 n1 n2 A1 A2 m1 c1 m2 c2 b v wx) (i : Nat) (hi : i ≠ 4 ∧ i ≠ 5) {u : Value} (hu : GN w (.agg #[.int .i64 s1, .bool n1, .slice A1 m1 c1]) (.agg #[.int .i64 s2, .bool n2, .slice A2 m2 c2]) p q i u wx) : JN w z z' p q s1 s2 n1 n2 A1 A2 m1 c1 m2 c2 (updB b i) (updV v (9 + i) u) wx := by
  refine ⟨h.fix, fun k => h.ba (by rw [upd_other (Ne.symm hi.1)] at k; exact k), fun k => h.bb (by rw [upd_other (Ne.symm hi.2)] at k; exact k), fun k => upd_true (h.f4 (by rw [upd_other (Ne.symm hi.1)] at k; exact k)), fun k => upd_true (h.f5 (by rw [upd_other (Ne.symm hi.2)] at k; exact k)), fun j hj => ?_⟩
  unfold updB at hj
  unfold updV
  by_cases e : j = i
  · subst e
    rw [if_pos rfl]
    exact hu
  · rw [if_neg e] at hj
    rw [if_neg (by omega)]
    exact h.all j hj
theorem JN.store_a (h : JN w z z' p q s1 s2 n1 n2 A1 A2 m1 c1 m2 c2 b v wx) (h0 : b 0 = true) {s : Int} {neg : Bool} {A : Option Addr} {n c : Nat} (hu : RI wx s neg A n c p) : JN w z z' p q s1 s2 n1 n2 A1 A2 m1 c1 m2 c2 (updB b 4) v (set3 wx w.heap.size (.int .i64 s) (.bool neg) (.slice A n c)) := by
  refine ⟨h.fix.set_a _ _ _, fun k => by rw [upd_same] at k; exact Bool.noConfusion k, fun k => (h.bb (by rw [upd_other (by decide)] at k; exact k)).set_3 (by omega) _ _ _, fun _ => upd_true h0, fun k => upd_true (h.f5 (by rw [upd_other (by decide)] at k; exact k)), fun j hj => ?_⟩
  by_cases e : j = 4
  · subst e
    exact ⟨s, neg, A, n, c, (h.fix.wa.set _ _ _).1, hu.set_3 h.fix.wa _ _ _⟩
  · rw [upd_other e] at hj
    exact (h.all j hj).set_a e h.fix.wa _ _ _
theorem JN.store_b (h : JN w z z' p q s1 s2 n1 n2 A1 A2 m1 c1 m2 c2 b v wx) (h0 : b 2 = true) {s : Int} {neg : Bool} {A : Option Addr} {n c : Nat} (hu : RI wx s neg A n c q) : JN w z z' p q s1 s2 n1 n2 A1 A2 m1 c1 m2 c2 (updB b 5) v (set3 wx (w.heap.size + 1) (.int .i64 s) (.bool neg) (.slice A n c)) := by
  refine ⟨h.fix.set_b _ _ _, fun k => (h.ba (by rw [upd_other (by decide)] at k; exact k)).set_3 (by omega) _ _ _, fun k => by rw [upd_same] at k; exact Bool.noConfusion k, fun k => upd_true (h.f4 (by rw [upd_other (by decide)] at k; exact k)), fun _ => upd_true h0, fun j hj => ?_⟩
  by_cases e : j = 5
  · subst e
    exact ⟨s, neg, A, n, c, (h.fix.wb.set _ _ _).1, hu.set_3 h.fix.wb _ _ _⟩
  · rw [upd_other e] at hj
    exact (h.all j hj).set_b e h.fix.wb _ _ _
theorem JN.done (h : JN w z z' p q s1 s2 n1 n2 A1 A2 m1 c1 m2 c2 b v wx) (h4 : b 4 = true) (h5 : b 5 = true) : MkL w p q wx :=
  ⟨h.fix.below, h.fix.wa, h.fix.wb, h.fix.wc, h.all 4 h4, h.all 5 h5⟩
theorem JN.start {X : World} (h : MkL w z z' X) (ha : B3 w.heap.size (.int .i64 s1) (.bool n1) (.slice A1 m1 c1) X) (hb : B3 (w.heap.size + 1) (.int .i64 s2) (.bool n2) (.slice A2 m2 c2) X) (ra : RI X s1 n1 A1 m1 c1 z) (rb : RI X s2 n2 A2 m2 c2 z') : JN w z z' p q s1 s2 n1 n2 A1 A2 m1 c1 m2 c2 (fun _ => false) v X.drew :=
  ⟨⟨Below.drew h.below, h.wa, h.wb, h.wc, ra, rb⟩, fun _ => ha, fun _ => hb, fun k => Bool.noConfusion k, fun k => Bool.noConfusion k, fun _ k => Bool.noConfusion k⟩
end

set_option maxRecDepth 100000 in
set_option maxHeartbeats 20000000 in
theorem rmake_any (s s' : Int) (neg neg' : Bool) (A A' : Option Addr) (n c n' c' K : Nat) (z z' : Int) (w : World) (h : RI w s neg A n c z) (h' : RI w s' neg' A' n' c' z') (hK : K ≤ 250000) (hz : z.natAbs < Bs ^ K) (hz' : z'.natAbs < Bs ^ K) (h0 : z' ≠ 0) :
    Calls Try.prog 28 #[.agg #[.int .i64 s, .bool neg, .slice A n c], .agg #[.int .i64 s', .bool neg', .slice A' n' c']] w (RetRt ((if z' < 0 then -z else z).tdiv (Nat.gcd z.natAbs z'.natAbs : Nat)) ((if z' < 0 then -z' else z').tdiv (Nat.gcd z.natAbs z'.natAbs : Nat)) w) := by
  have HS : Hid (∀ wx t b B m d x, RI wx t b B m d x → x.natAbs < Bs ^ K → Calls Try.prog 59 #[.agg #[.int .i64 t, .bool b, .slice B m d]] wx fun e w' => e = .returned (.int .i64 (sgnI x)) ∧ Below wx.heap.size wx w') := fun wx t b B m d x k1 k2 => rsign_any t b B m d x wx k1 (by have := k1.len k2; omega)
  have HM : Hid (∀ wx t b B m d x, RI wx t b B m d x → x.natAbs < Bs ^ K → Calls Try.prog 60 #[.agg #[.int .i64 t, .bool b, .slice B m d]] wx (RetI (-x) wx)) := fun wx t b B m d x k1 k2 => rminus_any t b B m d x wx k1 (by have := k1.len k2; omega)
  have HGC : Hid (∀ wx t b B m d x t' b' B' m' d' x', RI wx t b B m d x → RI wx t' b' B' m' d' x' → x.natAbs = z.natAbs → x'.natAbs = z'.natAbs → Calls Try.prog 46 #[.agg #[.int .i64 t, .bool b, .slice B m d], .agg #[.int .i64 t', .bool b', .slice B' m' d']] wx (RetI (Nat.gcd z.natAbs z'.natAbs : Nat) wx)) := fun wx t b B m d x t' b' B' m' d' x' k1 k2 e1 e2 => by
    rw [← e1, ← e2]
    exact rgcd_any t t' b b' B B' m d m' d' K x x' wx k1 k2 hK (by rw [e1]; exact hz) (by rw [e2]; exact hz')
  have HST : Hid (∀ X, Below w.heap.size w X → B3 w.heap.size (.int .i64 s) (.bool neg) (.slice A n c) X → B3 (w.heap.size + 1) (.int .i64 s') (.bool neg') (.slice A' n' c') X → W3 w.heap.size X → W3 (w.heap.size + 1) X → W6 (w.heap.size + 1 + 1) X → MkL w z z' X) := fun X k1 k2 k3 k4 k5 k6 =>
    ⟨k1, k4, k5, k6, ⟨s, neg, A, n, c, k2, h.keep k1⟩, ⟨s', neg', A', n', c', k3, h'.keep k1⟩⟩
  have HZ := Lib.hid hz
  have HZ' := Lib.hid hz'
  have H0 := Lib.hid h0
  have hgp : Nat.gcd z.natAbs z'.natAbs ≤ z'.natAbs := Nat.le_of_dvd (by omega) (Nat.gcd_dvd_right _ _)
  have HOF : Hid (∀ wx, Calls Try.prog 29 #[.int .i64 1] wx (RetI 1 wx)) := fun wx => rof_any 1 wx (by decide) (by decide)
  have HCM : Hid (∀ wx t b B m d t' b' B' m' d', RI wx t b B m d (Nat.gcd z.natAbs z'.natAbs : Nat) → RI wx t' b' B' m' d' 1 → Calls Try.prog 47 #[.agg #[.int .i64 t, .bool b, .slice B m d], .agg #[.int .i64 t', .bool b', .slice B' m' d']] wx fun e w' => e = .returned (.int .i64 (sgnI ((Nat.gcd z.natAbs z'.natAbs : Nat) - 1))) ∧ Below wx.heap.size wx w') := fun wx t b B m d t' b' B' m' d' k1 k2 =>
    rcompare_any t t' b b' B B' m d m' d' K _ 1 wx k1 k2 hK (by rw [Int.natAbs_natCast]; omega) (by simp only [Int.natAbs_one]; omega)
  have HOV : Hid (∀ wx t b B m d x t' b' B' m' d', RI wx t b B m d x → RI wx t' b' B' m' d' (Nat.gcd z.natAbs z'.natAbs : Nat) → x.natAbs < Bs ^ K → Calls Try.prog 61 #[.agg #[.int .i64 t, .bool b, .slice B m d], .agg #[.int .i64 t', .bool b', .slice B' m' d']] wx (RetII (x.tdiv (Nat.gcd z.natAbs z'.natAbs : Nat)) (x.tmod (Nat.gcd z.natAbs z'.natAbs : Nat)) wx)) := fun wx t b B m d x t' b' B' m' d' k1 k2 k3 =>
    rover_any t t' b b' B B' m d m' d' K x _ wx k1 k2 hK k3 (by rw [Int.natAbs_natCast]; omega) (by have := Nat.gcd_pos_of_pos_right z.natAbs (show 0 < z'.natAbs by omega); omega)
  clear hgp
  obtain ⟨p, hp⟩ : ∃ p, (if z' < 0 then -z else z) = p := ⟨_, rfl⟩
  obtain ⟨q, hq⟩ : ∃ q, (if z' < 0 then -z' else z') = q := ⟨_, rfl⟩
  obtain ⟨G, hG⟩ : ∃ G, Nat.gcd z.natAbs z'.natAbs = G := ⟨_, rfl⟩
  rw [hG] at HGC HCM HOV
  rw [hp, hq, hG]
  have HP := Lib.hid hp
  have HQ := Lib.hid hq
  have HG := Lib.hid hG
  have HK := Lib.hid hK
  clear h h' hz hz' h0 hp hq hG hK
  go_enter Try.func28, Try.ntmps28
  go_upto_region 1 with fail
  generalize hX : (((w.alloc _).alloc _).alloc _) = X
  have HX : Hid (MkL w z z' X) := by
    subst hX
    refine HST.out _ ?_ ?_ ?_ ?_ ?_ ?_
    · exact (((Below.refl _ _).alloc (Nat.le_refl _) _).alloc (by simp) _).alloc (by simp; omega) _
    · simp [B3, go_sem]
    · simp [B3, go_sem]
    · exact ((W3.new w _ _ _ rfl).keep (below_alloc _ _)).keep (below_alloc _ _)
    · exact (W3.new _ _ _ _ (by simp)).keep (below_alloc _ _)
    · exact W6.new _ _ _ _ _ _ _ (by simp)
  clear hX HST
  obtain ⟨s1, n1, A1, m1, c1, ⟨a0, a1, a2, a3⟩, hRI1⟩ := HX.out.ba
  obtain ⟨s2, n2, A2, m2, c2, ⟨d0, d1, d2, d3⟩, hRI2⟩ := HX.out.bb
  have HRI1 := Lib.hid hRI1
  have HRI2 := Lib.hid hRI2
  have HBa : Hid (B3 w.heap.size (.int .i64 s1) (.bool n1) (.slice A1 m1 c1) X) := ⟨a0, a1, a2, a3⟩
  have HBb : Hid (B3 (w.heap.size + 1) (.int .i64 s2) (.bool n2) (.slice A2 m2 c2) X) := ⟨d0, d1, d2, d3⟩
  clear hRI1 hRI2 a0 a1 a2
  go_wp2_with fail
  (with_reducible refine (HS.out _ _ _ _ _ _ _ HRI2.out HZ'.out).mono ?_)
  rintro e w1 ⟨rfl, hB1⟩
  have HB1 := Lib.hid hB1
  have HX1 := Lib.hid (HX.out.keep hB1)
  obtain ⟨a0, a1, a2, a3'⟩ := HBa.out.keep hB1
  clear d0 d1 d2 d3
  obtain ⟨d0, d1, d2, d3⟩ := HBb.out.keep hB1
  clear hB1 a3
  by_cases g : z' < 0
  · have g1 : decide (sgnI z' < 0) = true := by rw [sgn_lt]; exact decide_eq_true g
    have hp := HP.out
    have hq := HQ.out
    rw [if_pos g] at hp hq
    have HMP : Hid (∀ wx t b B m d, RI wx t b B m d z → Calls Try.prog 60 #[.agg #[.int .i64 t, .bool b, .slice B m d]] wx (RetI p wx)) := fun wx t b B m d k => by
      rw [← hp]
      exact HM.out wx t b B m d z k HZ.out
    have HMQ : Hid (∀ wx t b B m d, RI wx t b B m d z' → Calls Try.prog 60 #[.agg #[.int .i64 t, .bool b, .slice B m d]] wx (RetI q wx)) := fun wx t b B m d k => by
      rw [← hq]
      exact HM.out wx t b B m d z' k HZ'.out
    generalize sgnI z' = q2 at g1 ⊢
    clear hp hq g
    have HR1 := Lib.hid (HRI1.out.keep HB1.out)
    have HR2 := Lib.hid (HRI2.out.keep HB1.out)
    have HBa1 := Lib.hid (HBa.out.keep HB1.out)
    have HBb1 := Lib.hid (HBb.out.keep HB1.out)
    clear HRI1 HRI2 HBa HBb HB1 HX HS HM
    go_upto_region 2 with fail
    refine wp_region_inv3 [9, 10, 11, 12] (JN w z z' p q s1 s2 n1 n2 A1 A2 m1 c1 m2 c2) (by kernel_rfl) (by kernel_rfl) (by kernel_rfl) ?_ ?_ ?_
    · exact JN.start HX1.out HBa1.out HBb1.out HR1.out HR2.out
    · intro i b v wx o T' K ho hdep hb hJ hin hout hK hK'
      have hi : i < 6 := (Array.getElem?_eq_some_iff.1 ho).1
      have q9 := hin 9 (by decide)
      have q10 := hin 10 (by decide)
      have q11 := hin 11 (by decide)
      have q12 := hin 12 (by decide)
      have t2 : T'[2]? = some (.pointer (some ⟨w.heap.size, 0, none⟩)) := (hout 2 (by decide)).trans rfl
      have t3 : T'[3]? = some (.pointer (some ⟨w.heap.size + 1, 0, none⟩)) := (hout 3 (by decide)).trans rfl
      clear hin hout
      have HJ := Lib.hid hJ
      have HX := Lib.hid hJ.fix
      have HD := Lib.hid hdep
      have HBF := Lib.hid hb
      clear hJ hdep hb
      rcases (by omega : i = 0 ∨ i = 1 ∨ i = 2 ∨ i = 3 ∨ i = 4 ∨ i = 5) with rfl | rfl | rfl | rfl | rfl | rfl
      · obtain rfl := Option.some.inj ho
        have hf : b 4 = false := by
          cases h4 : b 4 with
          | false => rfl
          | true => exact absurd (HJ.out.f4 h4) (by rw [HBF.out]; decide)
        obtain ⟨c0, c1', c2', c3⟩ := HJ.out.ba hf
        clear q9 q10 q11 q12 t3 ho hi hf
        go_simp
        exact hK 9 _ _ (by decide) (HJ.out.put 0 (by decide) rfl)
      · obtain rfl := Option.some.inj ho
        rw [show v 9 = .agg #[.int .i64 s1, .bool n1, .slice A1 m1 c1] from HJ.out.all 0 (HD.out ⟨0, .data⟩ (by simp) rfl)] at q9
        clear q10 q11 q12 t2 t3 ho hi
        go_simp
        (with_reducible refine (HMP.out _ _ _ _ _ _ HX.out.ra).mono ?_)
        rintro e w2 ⟨s3, n3, A3, m3, c3, rfl, hRI3, hB⟩
        exact hK 10 _ _ (by decide) ((HJ.out.keep hB).put 1 (by decide) ⟨s3, n3, A3, m3, c3, rfl, hRI3⟩)
      · obtain rfl := Option.some.inj ho
        have hf : b 5 = false := by
          cases h4 : b 5 with
          | false => rfl
          | true => exact absurd (HJ.out.f5 h4) (by rw [HBF.out]; decide)
        obtain ⟨c0, c1', c2', c3⟩ := HJ.out.bb hf
        clear q9 q10 q11 q12 t2 ho hi hf
        go_simp
        exact hK 11 _ _ (by decide) (HJ.out.put 2 (by decide) rfl)
      · obtain rfl := Option.some.inj ho
        rw [show v 11 = .agg #[.int .i64 s2, .bool n2, .slice A2 m2 c2] from HJ.out.all 2 (HD.out ⟨2, .data⟩ (by simp) rfl)] at q11
        clear q9 q10 q12 t2 t3 ho hi
        go_simp
        (with_reducible refine (HMQ.out _ _ _ _ _ _ HX.out.rb).mono ?_)
        rintro e w2 ⟨s3, n3, A3, m3, c3, rfl, hRI3, hB⟩
        exact hK 12 _ _ (by decide) ((HJ.out.keep hB).put 3 (by decide) ⟨s3, n3, A3, m3, c3, rfl, hRI3⟩)
      · obtain rfl := Option.some.inj ho
        obtain ⟨s3, n3, A3, m3, c3, e2, hRI⟩ : IV wx (v 10) p := HJ.out.all 1 (HD.out ⟨1, .data⟩ (by simp) rfl)
        rw [e2] at q10
        have HR := Lib.hid (HJ.out.store_a (HD.out ⟨0, .phase⟩ (by simp) rfl) hRI)
        obtain ⟨⟨p0, p1, p2, p3, p4, p5⟩, p6, p7, p8, -⟩ := HX.out.wa
        clear e2 hRI q9 q11 q12 t3 ho hi
        go_simp
        exact hK' _ HR.out
      · obtain rfl := Option.some.inj ho
        obtain ⟨s3, n3, A3, m3, c3, e2, hRI⟩ : IV wx (v 12) q := HJ.out.all 3 (HD.out ⟨3, .data⟩ (by simp) rfl)
        rw [e2] at q12
        have HR := Lib.hid (HJ.out.store_b (HD.out ⟨2, .phase⟩ (by simp) rfl) hRI)
        obtain ⟨⟨p0, p1, p2, p3, p4, p5⟩, p6, p7, p8, -⟩ := HX.out.wb
        clear e2 hRI q9 q10 q11 t2 ho hi
        go_simp
        exact hK' _ HR.out
    · intro b v wx hall hJ
      have HY : Hid (MkL w p q wx) := hJ.done (hall 4 (by decide)) (hall 5 (by decide))
      simp only [over, List.setIfInBounds_toArray, List.set_cons_zero, List.set_cons_succ]
      clear hall hJ
      generalize v 9 = v9
      generalize v 10 = v10
      generalize v 11 = v11
      generalize v 12 = v12
      clear HX1 HR1 HR2 HBa1 HBb1 HMP HMQ
      clear a0 a1 a2 a3' d0 d1 d2 d3
      revert HY
      generalize wx = Y
      intro HY
      go_upto_region 3 with fail
      have HPN : Hid (p.natAbs = z.natAbs) := by
        show _ = _
        rw [← HP.out]; split <;> simp
      have HQN : Hid (q.natAbs = z'.natAbs) := by
        show _ = _
        rw [← HQ.out]; split <;> simp
      obtain ⟨s5, n5, A5, m5, c5, ⟨y0, y1, y2, y3⟩, hR5⟩ := HY.out.ba
      obtain ⟨s6, n6, A6, m6, c6, ⟨v0, v1, v2, v3⟩, hR6⟩ := HY.out.bb
      have HR5 := Lib.hid hR5
      have HR6 := Lib.hid hR6
      clear hR5 hR6
      go_wp2_with fail
      (with_reducible refine (HGC.out _ _ _ _ _ _ _ _ _ _ _ _ _ HR5.out HR6.out HPN.out HQN.out).mono ?_)
      rintro e w4 ⟨s7, n7, A7, m7, c7, rfl, hRI7, hB4⟩
      have HY4 := Lib.hid (HY.out.keep hB4)
      have HR5' := Lib.hid (HR5.out.keep hB4)
      have HR6' := Lib.hid (HR6.out.keep hB4)
      have HR7 := Lib.hid hRI7
      clear y0 y1 y2 y3 v0 v1 v2 v3 hRI7 hB4
      go_upto_region 4 with fail
      generalize hZ : w4.alloc _ = Z
      have HZZ : Hid (Below w4.heap.size w4 Z ∧ B3 w4.heap.size (.int .i64 s7) (.bool n7) (.slice A7 m7 c7) Z) := by
        subst hZ
        exact ⟨below_alloc _ _, B3.new _ _ _ _⟩
      clear hZ
      have HYZ := Lib.hid (HY4.out.keep HZZ.out.1)
      have HR5Z := Lib.hid (HR5'.out.keep HZZ.out.1)
      have HR6Z := Lib.hid (HR6'.out.keep HZZ.out.1)
      have HR7Z := Lib.hid (HR7.out.keep HZZ.out.1)
      have HBG := Lib.hid HZZ.out.2
      obtain ⟨x0, x1, x2, x3⟩ := HBG.out
      have HGB := Lib.hid HY4.out.wc.2.2.lt
      clear HY4 HR5' HR6' HR7 HZZ HR5 HR6 HY
      generalize w4.heap.size = gb at HGB HBG x0 x1 x2 x3 ⊢
      clear w4
      go_region_held3 (fun w' => w'.cell? ⟨gb, 0, none⟩ = some (.int .i64 s7) ∧ w'.cell? ⟨gb, 1, none⟩ = some (.bool n7) ∧ w'.cell? ⟨gb, 2, none⟩ = some (.slice A7 m7 c7)) (simp [go_sem, *])
        (first
          | (go_at_call 29; (with_reducible refine (HOF.out _).mono ?_); rintro e w5 ⟨s8, n8, A8, m8, c8, rfl, hRI8, hB5⟩; (have hB5 : Below Z.heap.size Z w5 := by first | exact hB5 | exact below_undrew' hB5); have C5 := (bcell hB5).1; have HB5 := Lib.hid hB5; have HR8 := Lib.hid hRI8; clear hRI8 hB5)
          | (go_at_call 47; (with_reducible refine (HCM.out _ _ _ _ _ _ _ _ _ _ _ (by first | exact HR7Z.out.keep HB5.out | exact (HR7Z.out.keep HB5.out).drew) (by first | exact HR8.out | exact HR8.out.drew)).mono ?_); rintro e w6 ⟨rfl, hB6⟩; (have hB6 : Below w5.heap.size w5 w6 := by first | exact hB6 | exact below_undrew' hB6); have HB6 := Lib.hid (stepB HB5.out hB6); clear C5; have C6 := (bcell HB6.out).1; clear hB6))
      have HYF := Lib.hid (HYZ.out.keep HB6.out)
      have HRG := Lib.hid (HR7Z.out.keep HB6.out)
      have HBGn := Lib.hid (HBG.out.keep HB6.out)
      clear hB5 HB5 HR8 hB6 HB6 C6 x0 x1 x2 x3 HYZ HR5Z HR6Z HR7Z HBG
      have HBG := HBGn
      clear HBGn
      have HPB : Hid (p.natAbs < Bs ^ K) := by
        show _ < _
        rw [HPN.out]
        exact HZ.out
      have HQB : Hid (q.natAbs < Bs ^ K) := by
        show _ < _
        rw [HQN.out]
        exact HZ'.out
      by_cases hG1 : G = 1
      · have g2 : (sgnI ((G : Int) - 1) != 0) = false := by rw [hG1]; rfl
        have ep : p.tdiv (G : Int) = p := by rw [hG1]; exact Int.tdiv_one p
        have eq : q.tdiv (G : Int) = q := by rw [hG1]; exact Int.tdiv_one q
        have HEP := Lib.hid ep
        have HEQ := Lib.hid eq
        generalize sgnI ((G : Int) - 1) = q19 at g2 ⊢
        clear hG1 ep eq
        go_upto_region 7 with fail
        obtain ⟨s5, n5, A5, m5, c5, ⟨y0, y1, y2, -⟩, hR5⟩ := HYF.out.ba
        obtain ⟨s6, n6, A6, m6, c6, ⟨v0, v1, v2, -⟩, hR6⟩ := HYF.out.bb
        obtain ⟨⟨o0, o1, o2, o3, o4, o5, p0, p1, p2, p3, p4, p5⟩, ⟨f0, f1, f2, f3, f4, f5⟩, -⟩ := HYF.out.wc
        have HR5 := Lib.hid hR5
        have HR6 := Lib.hid hR6
        clear hR5 hR6
        go_wp2_with fail
        refine bodyPost_ret (v := .agg #[.int .i64 s5, .bool n5, .slice A5 m5 c5, .int .i64 s6, .bool n6, .slice A6 m6 c6]) (by simp [results, Try.results28, go_sem, p0, p1, p2, p3, p4, p5]) rfl ?_
        rw [HEP.out, HEQ.out]
        exact retRt_box0 HYF.out.below (Nat.le_trans (Nat.le_succ _) (Nat.le_succ _)) HR5.out HR6.out HYF.out.wc.2.2
      · have g2 : (sgnI ((G : Int) - 1) != 0) = true := by
          rw [bne_iff_ne]
          unfold sgnI
          split
          · decide
          · rw [if_neg (by omega)]; decide
        generalize sgnI ((G : Int) - 1) = q19 at g2 ⊢
        clear hG1
        go_upto_region 5 with fail
        obtain ⟨s5, n5, A5, m5, c5, ⟨y0, y1, y2, -⟩, hR5⟩ := HYF.out.ba
        obtain ⟨x0, x1, x2, x3⟩ := HBG.out
        have HR5 := Lib.hid hR5
        clear hR5 x3
        go_wp2_with fail
        (with_reducible refine (HOV.out _ _ _ _ _ _ _ _ _ _ _ _ HR5.out HRG.out HPB.out).mono ?_)
        rintro e w8 ⟨s9, n9, A9, m9, c9, s10, n10, A10, m10, c10, rfl, hq, hr, hB8⟩
        have HB8 := Lib.hid hB8
        have HQ8 := Lib.hid hq
        have H8 := Lib.hid (HYF.out.keep hB8)
        have HBG8 := Lib.hid (HBG.out.keep hB8)
        have HRG8 := Lib.hid (HRG.out.keep hB8)
        clear y0 y1 y2 x0 x1 x2 hq hr hB8 HR5 HYF HBG HRG
        obtain ⟨⟨o0, o1, o2, p0, p1, p2⟩, f0, f1, f2, -⟩ := H8.out.wa
        go_upto_region 6 with fail
        generalize hY2 : ((w8.setCell _ _).setCell _ _).setCell _ _ = Y2
        have HYF : Hid (MkL w (p.tdiv G) q Y2) := by
          subst hY2
          exact H8.out.set_a HQ8.out
        have HBG : Hid (B3 gb (.int .i64 s7) (.bool n7) (.slice A7 m7 c7) Y2) := by
          subst hY2
          have := HGB.out
          exact HBG8.out.set_3 (by omega) _ _ _
        have HRG : Hid (RI Y2 s7 n7 A7 m7 c7 G) := by
          subst hY2
          exact HRG8.out.set_3 H8.out.wa _ _ _
        clear hY2 H8 HBG8 HRG8 HQ8 HB8 p0 p1 p2 f0 f1 f2
        clear w8
        obtain ⟨s5, n5, A5, m5, c5, ⟨y0, y1, y2, -⟩, hR5⟩ := HYF.out.bb
        obtain ⟨x0, x1, x2, x3⟩ := HBG.out
        have HR5 := Lib.hid hR5
        clear hR5 x3
        go_wp2_with fail
        (with_reducible refine (HOV.out _ _ _ _ _ _ _ _ _ _ _ _ HR5.out HRG.out HQB.out).mono ?_)
        rintro e w8 ⟨s9, n9, A9, m9, c9, s10, n10, A10, m10, c10, rfl, hq, hr, hB8⟩
        have HB8 := Lib.hid hB8
        have HQ8 := Lib.hid hq
        have H8 := Lib.hid (HYF.out.keep hB8)
        have HBG8 := Lib.hid (HBG.out.keep hB8)
        have HRG8 := Lib.hid (HRG.out.keep hB8)
        clear y0 y1 y2 x0 x1 x2 hq hr hB8 HR5 HYF HBG HRG
        obtain ⟨⟨o0, o1, o2, p0, p1, p2⟩, f0, f1, f2, -⟩ := H8.out.wb
        go_upto_region 7 with fail
        generalize hY2 : ((w8.setCell _ _).setCell _ _).setCell _ _ = Y2
        have HYF : Hid (MkL w (p.tdiv G) (q.tdiv G) Y2) := by
          subst hY2
          exact H8.out.set_b HQ8.out
        have HBG : Hid (B3 gb (.int .i64 s7) (.bool n7) (.slice A7 m7 c7) Y2) := by
          subst hY2
          have := HGB.out
          exact HBG8.out.set_3 (by omega) _ _ _
        have HRG : Hid (RI Y2 s7 n7 A7 m7 c7 G) := by
          subst hY2
          exact HRG8.out.set_3 H8.out.wb _ _ _
        clear hY2 H8 HBG8 HRG8 HQ8 HB8 p0 p1 p2 f0 f1 f2
        clear w8
        obtain ⟨s5, n5, A5, m5, c5, ⟨y0, y1, y2, -⟩, hR5⟩ := HYF.out.ba
        obtain ⟨s6, n6, A6, m6, c6, ⟨v0, v1, v2, -⟩, hR6⟩ := HYF.out.bb
        obtain ⟨⟨o0, o1, o2, o3, o4, o5, p0, p1, p2, p3, p4, p5⟩, ⟨f0, f1, f2, f3, f4, f5⟩, -⟩ := HYF.out.wc
        have HR5 := Lib.hid hR5
        have HR6 := Lib.hid hR6
        clear hR5 hR6
        go_wp2_with fail
        refine bodyPost_ret (v := .agg #[.int .i64 s5, .bool n5, .slice A5 m5 c5, .int .i64 s6, .bool n6, .slice A6 m6 c6]) (by simp [results, Try.results28, go_sem, p0, p1, p2, p3, p4, p5]) rfl ?_
        exact retRt_box0 HYF.out.below (Nat.le_trans (Nat.le_succ _) (Nat.le_succ _)) HR5.out HR6.out HYF.out.wc.2.2
  · have g1 : decide (sgnI z' < 0) = false := by rw [sgn_lt]; exact decide_eq_false g
    have hp := HP.out
    have hq := HQ.out
    rw [if_neg g] at hp hq
    generalize sgnI z' = q2 at g1 ⊢
    have HY : Hid (MkL w p q w1) := by
      show MkL w p q w1
      rw [← hp, ← hq]
      exact HX1.out
    clear hp hq a0 a1 a2 a3' d0 d1 d2 d3 HRI1 HRI2 HBa HBb HB1 HX HX1 HS HM
    revert HY
    generalize w1 = Y
    intro HY
    go_upto_region 3 with fail
    have HPN : Hid (p.natAbs = z.natAbs) := by
      show _ = _
      rw [← HP.out]; split <;> simp
    have HQN : Hid (q.natAbs = z'.natAbs) := by
      show _ = _
      rw [← HQ.out]; split <;> simp
    obtain ⟨s5, n5, A5, m5, c5, ⟨y0, y1, y2, y3⟩, hR5⟩ := HY.out.ba
    obtain ⟨s6, n6, A6, m6, c6, ⟨v0, v1, v2, v3⟩, hR6⟩ := HY.out.bb
    have HR5 := Lib.hid hR5
    have HR6 := Lib.hid hR6
    clear hR5 hR6
    go_wp2_with fail
    (with_reducible refine (HGC.out _ _ _ _ _ _ _ _ _ _ _ _ _ HR5.out HR6.out HPN.out HQN.out).mono ?_)
    rintro e w4 ⟨s7, n7, A7, m7, c7, rfl, hRI7, hB4⟩
    have HY4 := Lib.hid (HY.out.keep hB4)
    have HR5' := Lib.hid (HR5.out.keep hB4)
    have HR6' := Lib.hid (HR6.out.keep hB4)
    have HR7 := Lib.hid hRI7
    clear y0 y1 y2 y3 v0 v1 v2 v3 hRI7 hB4
    go_upto_region 4 with fail
    generalize hZ : w4.alloc _ = Z
    have HZZ : Hid (Below w4.heap.size w4 Z ∧ B3 w4.heap.size (.int .i64 s7) (.bool n7) (.slice A7 m7 c7) Z) := by
      subst hZ
      exact ⟨below_alloc _ _, B3.new _ _ _ _⟩
    clear hZ
    have HYZ := Lib.hid (HY4.out.keep HZZ.out.1)
    have HR5Z := Lib.hid (HR5'.out.keep HZZ.out.1)
    have HR6Z := Lib.hid (HR6'.out.keep HZZ.out.1)
    have HR7Z := Lib.hid (HR7.out.keep HZZ.out.1)
    have HBG := Lib.hid HZZ.out.2
    obtain ⟨x0, x1, x2, x3⟩ := HBG.out
    have HGB := Lib.hid HY4.out.wc.2.2.lt
    clear HY4 HR5' HR6' HR7 HZZ HR5 HR6 HY
    generalize w4.heap.size = gb at HGB HBG x0 x1 x2 x3 ⊢
    clear w4
    go_region_held3 (fun w' => w'.cell? ⟨gb, 0, none⟩ = some (.int .i64 s7) ∧ w'.cell? ⟨gb, 1, none⟩ = some (.bool n7) ∧ w'.cell? ⟨gb, 2, none⟩ = some (.slice A7 m7 c7)) (simp [go_sem, *])
      (first
        | (go_at_call 29; (with_reducible refine (HOF.out _).mono ?_); rintro e w5 ⟨s8, n8, A8, m8, c8, rfl, hRI8, hB5⟩; (have hB5 : Below Z.heap.size Z w5 := by first | exact hB5 | exact below_undrew' hB5); have C5 := (bcell hB5).1; have HB5 := Lib.hid hB5; have HR8 := Lib.hid hRI8; clear hRI8 hB5)
        | (go_at_call 47; (with_reducible refine (HCM.out _ _ _ _ _ _ _ _ _ _ _ (by first | exact HR7Z.out.keep HB5.out | exact (HR7Z.out.keep HB5.out).drew) (by first | exact HR8.out | exact HR8.out.drew)).mono ?_); rintro e w6 ⟨rfl, hB6⟩; (have hB6 : Below w5.heap.size w5 w6 := by first | exact hB6 | exact below_undrew' hB6); have HB6 := Lib.hid (stepB HB5.out hB6); clear C5; have C6 := (bcell HB6.out).1; clear hB6))
    have HYF := Lib.hid (HYZ.out.keep HB6.out)
    have HRG := Lib.hid (HR7Z.out.keep HB6.out)
    have HBGn := Lib.hid (HBG.out.keep HB6.out)
    clear hB5 HB5 HR8 hB6 HB6 C6 x0 x1 x2 x3 HYZ HR5Z HR6Z HR7Z HBG
    have HBG := HBGn
    clear HBGn
    have HPB : Hid (p.natAbs < Bs ^ K) := by
      show _ < _
      rw [HPN.out]
      exact HZ.out
    have HQB : Hid (q.natAbs < Bs ^ K) := by
      show _ < _
      rw [HQN.out]
      exact HZ'.out
    by_cases hG1 : G = 1
    · have g2 : (sgnI ((G : Int) - 1) != 0) = false := by rw [hG1]; rfl
      have ep : p.tdiv (G : Int) = p := by rw [hG1]; exact Int.tdiv_one p
      have eq : q.tdiv (G : Int) = q := by rw [hG1]; exact Int.tdiv_one q
      have HEP := Lib.hid ep
      have HEQ := Lib.hid eq
      generalize sgnI ((G : Int) - 1) = q19 at g2 ⊢
      clear hG1 ep eq
      go_upto_region 7 with fail
      obtain ⟨s5, n5, A5, m5, c5, ⟨y0, y1, y2, -⟩, hR5⟩ := HYF.out.ba
      obtain ⟨s6, n6, A6, m6, c6, ⟨v0, v1, v2, -⟩, hR6⟩ := HYF.out.bb
      obtain ⟨⟨o0, o1, o2, o3, o4, o5, p0, p1, p2, p3, p4, p5⟩, ⟨f0, f1, f2, f3, f4, f5⟩, -⟩ := HYF.out.wc
      have HR5 := Lib.hid hR5
      have HR6 := Lib.hid hR6
      clear hR5 hR6
      go_wp2_with fail
      refine bodyPost_ret (v := .agg #[.int .i64 s5, .bool n5, .slice A5 m5 c5, .int .i64 s6, .bool n6, .slice A6 m6 c6]) (by simp [results, Try.results28, go_sem, p0, p1, p2, p3, p4, p5]) rfl ?_
      rw [HEP.out, HEQ.out]
      exact retRt_box0 HYF.out.below (Nat.le_trans (Nat.le_succ _) (Nat.le_succ _)) HR5.out HR6.out HYF.out.wc.2.2
    · have g2 : (sgnI ((G : Int) - 1) != 0) = true := by
        rw [bne_iff_ne]
        unfold sgnI
        split
        · decide
        · rw [if_neg (by omega)]; decide
      generalize sgnI ((G : Int) - 1) = q19 at g2 ⊢
      clear hG1
      go_upto_region 5 with fail
      obtain ⟨s5, n5, A5, m5, c5, ⟨y0, y1, y2, -⟩, hR5⟩ := HYF.out.ba
      obtain ⟨x0, x1, x2, x3⟩ := HBG.out
      have HR5 := Lib.hid hR5
      clear hR5 x3
      go_wp2_with fail
      (with_reducible refine (HOV.out _ _ _ _ _ _ _ _ _ _ _ _ HR5.out HRG.out HPB.out).mono ?_)
      rintro e w8 ⟨s9, n9, A9, m9, c9, s10, n10, A10, m10, c10, rfl, hq, hr, hB8⟩
      have HB8 := Lib.hid hB8
      have HQ8 := Lib.hid hq
      have H8 := Lib.hid (HYF.out.keep hB8)
      have HBG8 := Lib.hid (HBG.out.keep hB8)
      have HRG8 := Lib.hid (HRG.out.keep hB8)
      clear y0 y1 y2 x0 x1 x2 hq hr hB8 HR5 HYF HBG HRG
      obtain ⟨⟨o0, o1, o2, p0, p1, p2⟩, f0, f1, f2, -⟩ := H8.out.wa
      go_upto_region 6 with fail
      generalize hY2 : ((w8.setCell _ _).setCell _ _).setCell _ _ = Y2
      have HYF : Hid (MkL w (p.tdiv G) q Y2) := by
        subst hY2
        exact H8.out.set_a HQ8.out
      have HBG : Hid (B3 gb (.int .i64 s7) (.bool n7) (.slice A7 m7 c7) Y2) := by
        subst hY2
        have := HGB.out
        exact HBG8.out.set_3 (by omega) _ _ _
      have HRG : Hid (RI Y2 s7 n7 A7 m7 c7 G) := by
        subst hY2
        exact HRG8.out.set_3 H8.out.wa _ _ _
      clear hY2 H8 HBG8 HRG8 HQ8 HB8 p0 p1 p2 f0 f1 f2
      clear w8
      obtain ⟨s5, n5, A5, m5, c5, ⟨y0, y1, y2, -⟩, hR5⟩ := HYF.out.bb
      obtain ⟨x0, x1, x2, x3⟩ := HBG.out
      have HR5 := Lib.hid hR5
      clear hR5 x3
      go_wp2_with fail
      (with_reducible refine (HOV.out _ _ _ _ _ _ _ _ _ _ _ _ HR5.out HRG.out HQB.out).mono ?_)
      rintro e w8 ⟨s9, n9, A9, m9, c9, s10, n10, A10, m10, c10, rfl, hq, hr, hB8⟩
      have HB8 := Lib.hid hB8
      have HQ8 := Lib.hid hq
      have H8 := Lib.hid (HYF.out.keep hB8)
      have HBG8 := Lib.hid (HBG.out.keep hB8)
      have HRG8 := Lib.hid (HRG.out.keep hB8)
      clear y0 y1 y2 x0 x1 x2 hq hr hB8 HR5 HYF HBG HRG
      obtain ⟨⟨o0, o1, o2, p0, p1, p2⟩, f0, f1, f2, -⟩ := H8.out.wb
      go_upto_region 7 with fail
      generalize hY2 : ((w8.setCell _ _).setCell _ _).setCell _ _ = Y2
      have HYF : Hid (MkL w (p.tdiv G) (q.tdiv G) Y2) := by
        subst hY2
        exact H8.out.set_b HQ8.out
      have HBG : Hid (B3 gb (.int .i64 s7) (.bool n7) (.slice A7 m7 c7) Y2) := by
        subst hY2
        have := HGB.out
        exact HBG8.out.set_3 (by omega) _ _ _
      have HRG : Hid (RI Y2 s7 n7 A7 m7 c7 G) := by
        subst hY2
        exact HRG8.out.set_3 H8.out.wb _ _ _
      clear hY2 H8 HBG8 HRG8 HQ8 HB8 p0 p1 p2 f0 f1 f2
      clear w8
      obtain ⟨s5, n5, A5, m5, c5, ⟨y0, y1, y2, -⟩, hR5⟩ := HYF.out.ba
      obtain ⟨s6, n6, A6, m6, c6, ⟨v0, v1, v2, -⟩, hR6⟩ := HYF.out.bb
      obtain ⟨⟨o0, o1, o2, o3, o4, o5, p0, p1, p2, p3, p4, p5⟩, ⟨f0, f1, f2, f3, f4, f5⟩, -⟩ := HYF.out.wc
      have HR5 := Lib.hid hR5
      have HR6 := Lib.hid hR6
      clear hR5 hR6
      go_wp2_with fail
      refine bodyPost_ret (v := .agg #[.int .i64 s5, .bool n5, .slice A5 m5 c5, .int .i64 s6, .bool n6, .slice A6 m6 c6]) (by simp [results, Try.results28, go_sem, p0, p1, p2, p3, p4, p5]) rfl ?_
      exact retRt_box0 HYF.out.below (Nat.le_trans (Nat.le_succ _) (Nat.le_succ _)) HR5.out HR6.out HYF.out.wc.2.2

end Go.Proofs.Ytfhmhkbjcccejaa

namespace Go.Proofs.Ytfhmhkbjcccejaa
open Go Go.RowKit

section
variable {P : Program} {ops : Array Oper} {Q : Exit → Act → World → Prop}

theorem updV_other {d : Nat → Nat} {n : Nat} (hd : ∀ i j, i < n → j < n → d i = d j → i = j) {v : Nat → Value} {x : Value} {i j : Nat} (hi : i < n) (hj : j < n) (h : j ≠ i) : updV v (d i) x (d j) = v (d j) := by
  unfold updV
  rw [if_neg (fun e => h (hd _ _ hj hi e))]

/-- Every operation makes a value. -/
theorem wp_region_flow {id : Nat} {T : Array Value} {df : List Deferred} {w : World} (n : Nat) (S : List Nat) (d : Nat → Nat) (Fix : World → Prop) (G : Nat → Value → World → Prop)
    (hm : P.follows .mixedOrders = true) (hf : forward .any ops = true) (hS : S.all (fun j => decide (j < T.size)) = true) (hn : ops.size = n)
    (hd : ∀ i j, i < n → j < n → d i = d j → i = j) (hdS : ∀ i, i < n → d i ∈ S)
    (hkeep : ∀ wx wy, Fix wx → Below wx.heap.size wx wy → Fix wy) (hG : ∀ i u wx wy, Below wx.heap.size wx wy → G i u wx → G i u wy)
    (h0 : Fix w.drew)
    (hstep : ∀ (i : Nat) (v : Nat → Value) (wx : World) (o : Oper) (T' : Array Value) (K : Act → World → Prop), ops[i]? = some o → Fix wx → (∀ e ∈ o.after, Region.binds .any e = true → G e.on (v (d e.on)) wx) →
      (∀ j, j ∈ S → T'[j]? = some (v j)) → (∀ j, j ∉ S → T'[j]? = T[j]?) →
      (∀ x w', Below wx.heap.size wx w' → G i x w' → K ⟨T'.setIfInBounds (d i) x, df⟩ w') →
      if Region.wanted o (yielded ops T') = true then Oper.wp P o ⟨T', df⟩ wx K Q else K (Act.put ⟨T', df⟩ o.dst undef) wx)
    (hend : ∀ (v : Nat → Value) (wx : World), Fix wx → (∀ i, i < n → G i (v (d i)) wx) → Q .normal ⟨over T S v, df⟩ wx) :
    (Code.region id ops true).wp P Q ⟨T, df⟩ w := by
  refine wp_region_inv3 S (fun b v wx => Fix wx ∧ ∀ i, i < n → b i = true → G i (v (d i)) wx) hm hf hS ⟨h0, fun _ _ h => Bool.noConfusion h⟩ ?_ ?_
  · rintro i b v wx o T' K ho hdep hb ⟨hF, hall⟩ hin hout hK -
    have hi : i < n := by rw [← hn]; exact (Array.getElem?_eq_some_iff.1 ho).1
    have hon : ∀ e ∈ o.after, Region.binds .any e = true → e.on < n := fun e he hbd => by
      have h := List.all_eq_true.1 hf i (List.mem_range.2 (by omega))
      simp only [ho, Option.map_some, Option.getD_some] at h
      have h2 := (Array.all_eq_true_iff_forall_mem.1 h) e he
      have : e.on < i := by simpa [hbd] using h2
      omega
    refine hstep i v wx o T' K ho hF (fun e he hbd => hall _ (hon e he hbd) (hdep e he hbd)) hin hout (fun x w' hB hx => hK _ _ _ (hdS i hi) ⟨hkeep _ _ hF hB, fun j hj hbj => ?_⟩)
    by_cases e : j = i
    · subst e
      have e2 : updV v (d j) x (d j) = x := by unfold updV; rw [if_pos rfl]
      rw [e2]
      exact hx
    · rw [updV_other hd hi hj e]
      unfold updB at hbj
      rw [if_neg e] at hbj
      exact hG _ _ _ _ hB (hall j hj hbj)
  · rintro b v wx hb ⟨hF, hall⟩
    exact hend v wx hF (fun i hi => hall i hi (hb i (by omega)))

/-- Every operation but the last one makes a value; the last one stores and comes after all others. -/
theorem wp_region_flow_store {id : Nat} {T : Array Value} {df : List Deferred} {w : World} (n : Nat) (S : List Nat) (d : Nat → Nat) (Fix End : World → Prop) (G : Nat → Value → World → Prop)
    (hm : P.follows .mixedOrders = true) (hf : forward .any ops = true) (hS : S.all (fun j => decide (j < T.size)) = true) (hn : ops.size = n + 1)
    (hlast : ((List.range n).all fun i => ((ops[n]?).map fun o => o.after.any fun e => Region.binds .any e && (e.on == i)).getD false) = true)
    (hd : ∀ i j, i < n → j < n → d i = d j → i = j) (hdS : ∀ i, i < n → d i ∈ S)
    (hkeep : ∀ wx wy, Fix wx → Below wx.heap.size wx wy → Fix wy) (hG : ∀ i u wx wy, Below wx.heap.size wx wy → G i u wx → G i u wy)
    (h0 : Fix w.drew)
    (hstep : ∀ (i : Nat) (v : Nat → Value) (wx : World) (o : Oper) (T' : Array Value) (K : Act → World → Prop), i < n → ops[i]? = some o → Fix wx → (∀ e ∈ o.after, Region.binds .any e = true → G e.on (v (d e.on)) wx) →
      (∀ j, j ∈ S → T'[j]? = some (v j)) → (∀ j, j ∉ S → T'[j]? = T[j]?) →
      (∀ x w', Below wx.heap.size wx w' → G i x w' → K ⟨T'.setIfInBounds (d i) x, df⟩ w') →
      if Region.wanted o (yielded ops T') = true then Oper.wp P o ⟨T', df⟩ wx K Q else K (Act.put ⟨T', df⟩ o.dst undef) wx)
    (hstore : ∀ (v : Nat → Value) (wx : World) (o : Oper) (T' : Array Value) (K : Act → World → Prop), ops[n]? = some o → Fix wx → (∀ i, i < n → G i (v (d i)) wx) →
      (∀ j, j ∈ S → T'[j]? = some (v j)) → (∀ j, j ∉ S → T'[j]? = T[j]?) → (∀ w', End w' → K ⟨T', df⟩ w') →
      if Region.wanted o (yielded ops T') = true then Oper.wp P o ⟨T', df⟩ wx K Q else K (Act.put ⟨T', df⟩ o.dst undef) wx)
    (hend : ∀ (v : Nat → Value) (wx : World), End wx → Q .normal ⟨over T S v, df⟩ wx) :
    (Code.region id ops true).wp P Q ⟨T, df⟩ w := by
  refine wp_region_inv3 S (fun b v wx => (b n = false → Fix wx ∧ ∀ i, i < n → b i = true → G i (v (d i)) wx) ∧ (b n = true → (∀ i, i < n → b i = true) ∧ End wx)) hm hf hS ⟨fun _ => ⟨h0, fun _ _ h => Bool.noConfusion h⟩, fun h => Bool.noConfusion h⟩ ?_ ?_
  · rintro i b v wx o T' K ho hdep hb ⟨h1, h2⟩ hin hout hK hK'
    have hi : i < n + 1 := by rw [← hn]; exact (Array.getElem?_eq_some_iff.1 ho).1
    by_cases hl : i = n
    · subst hl
      obtain ⟨hF, hall⟩ := h1 hb
      have hbi : ∀ j, j < i → b j = true := fun j hj => by
        have h := List.all_eq_true.1 hlast j (List.mem_range.2 hj)
        simp only [ho, Option.map_some, Option.getD_some] at h
        obtain ⟨k, hk, hp⟩ := Array.any_eq_true.1 h
        have he : o.after[k] ∈ o.after := Array.getElem_mem hk
        generalize o.after[k] = e at hp he
        have hp' := Bool.and_eq_true_iff.1 hp
        have e1 := hdep e he hp'.1
        rw [beq_iff_eq.1 hp'.2] at e1
        exact e1
      refine hstore v wx o T' K ho hF (fun j hj => hall j hj (hbi j hj)) hin hout (fun w' hE => hK' _ ⟨fun h => ?_, fun _ => ⟨fun j hj => ?_, hE⟩⟩)
      · unfold updB at h
        rw [if_pos rfl] at h
        exact Bool.noConfusion h
      · unfold updB
        rw [if_neg (by omega)]
        exact hbi j hj
    · have hi' : i < n := by omega
      have hbn : b n = false := by
        cases hbn : b n with
        | false => rfl
        | true => exact absurd ((h2 hbn).1 i hi') (by rw [hb]; decide)
      obtain ⟨hF, hall⟩ := h1 hbn
      have hon : ∀ e ∈ o.after, Region.binds .any e = true → e.on < n := fun e he hbd => by
        have h := List.all_eq_true.1 hf i (List.mem_range.2 (by omega))
        simp only [ho, Option.map_some, Option.getD_some] at h
        have h2 := (Array.all_eq_true_iff_forall_mem.1 h) e he
        have : e.on < i := by simpa [hbd] using h2
        omega
      refine hstep i v wx o T' K hi' ho hF (fun e he hbd => hall _ (hon e he hbd) (hdep e he hbd)) hin hout (fun x w' hB hx => hK _ _ _ (hdS i hi') ⟨fun _ => ⟨hkeep _ _ hF hB, fun j hj hbj => ?_⟩, fun h => ?_⟩)
      · by_cases e : j = i
        · subst e
          have e2 : updV v (d j) x (d j) = x := by unfold updV; rw [if_pos rfl]
          rw [e2]
          exact hx
        · rw [updV_other hd hi' hj e]
          unfold updB at hbj
          rw [if_neg e] at hbj
          exact hG _ _ _ _ hB (hall j hj hbj)
      · unfold updB at h
        rw [if_neg (Ne.symm hl)] at h
        rw [hbn] at h
        exact Bool.noConfusion h
  · rintro b v wx hb ⟨-, h2⟩
    exact hend v wx (h2 (hb n (by omega))).2
end

end Go.Proofs.Ytfhmhkbjcccejaa

namespace Go.Proofs.Ytfhmhkbjcccejaa
open Go.RowKit

/-- The quotient of two integers. -/
def qt (z z' : Int) : Rat := mkRat (if z' < 0 then -z else z) z'.natAbs

theorem qt_parts (z z' : Int) (h0 : z' ≠ 0) : (if z' < 0 then -z else z).tdiv ((Nat.gcd z.natAbs z'.natAbs : Nat) : Int) = (qt z z').num ∧ (if z' < 0 then -z' else z').tdiv ((Nat.gcd z.natAbs z'.natAbs : Nat) : Int) = ((qt z z').den : Int) := by
  obtain ⟨N, hN⟩ : ∃ N, (if z' < 0 then -z else z) = N := ⟨_, rfl⟩
  have hNa : N.natAbs = z.natAbs := by rw [← hN]; split <;> simp
  have hD : (if z' < 0 then -z' else z') = (z'.natAbs : Int) := by split <;> omega
  have hd : z'.natAbs ≠ 0 := by omega
  obtain ⟨d, hde⟩ : ∃ d, z'.natAbs = d := ⟨_, rfl⟩
  obtain ⟨G, hG⟩ : ∃ G, Nat.gcd z.natAbs d = G := ⟨_, rfl⟩
  unfold qt
  rw [hD, hN, hde, hG]
  rw [hde] at hd
  have hg : N.natAbs.gcd d = G := by rw [hNa]; exact hG
  have hGd : G ∣ d := by rw [← hG]; exact Nat.gcd_dvd_right _ _
  have hGn : (G : Int) ∣ N := by
    rw [← Int.natAbs_dvd_natAbs, Int.natAbs_natCast, hNa, ← hG]
    exact Nat.gcd_dvd_left _ _
  have h1 := rat_ratio (n := N) (t := N.tdiv (G : Int)) (d := d) (l := d / G) (g := G) hd hg (Int.tdiv_mul_cancel hGn).symm (Nat.div_mul_cancel hGd).symm
  exact ⟨h1.1.symm, by rw [h1.2]; exact (Int.ofNat_tdiv d G).symm⟩
theorem qt_le (z z' : Int) (h0 : z' ≠ 0) : (qt z z').num.natAbs ≤ z.natAbs ∧ (qt z z').den ≤ z'.natAbs := by
  obtain ⟨h1, h2⟩ := qt_parts z z' h0
  constructor
  · rw [← h1, Int.natAbs_tdiv]
    refine Nat.le_trans (Nat.div_le_self _ _) ?_
    split <;> simp
  · have : ((qt z z').den : Int).natAbs ≤ z'.natAbs := by
      rw [← h2, Int.natAbs_tdiv]
      refine Nat.le_trans (Nat.div_le_self _ _) ?_
      split <;> simp
    simpa using this
theorem qt_add (x y : Rat) : qt (x.num * (y.den : Int) + y.num * (x.den : Int)) ((x.den : Int) * (y.den : Int)) = x + y := by
  have h : ¬ ((x.den : Int) * (y.den : Int) < 0) := by rw [← Int.natCast_mul]; omega
  unfold qt
  rw [if_neg h, ← Int.natCast_mul, Int.natAbs_natCast, Rat.add_def']
theorem qt_mul (x y : Rat) : qt (x.num * y.num) ((x.den : Int) * (y.den : Int)) = x * y := by
  have h : ¬ ((x.den : Int) * (y.den : Int) < 0) := by rw [← Int.natCast_mul]; omega
  unfold qt
  rw [if_neg h, ← Int.natCast_mul, Int.natAbs_natCast, Rat.mul_def']

/-- A value that is a fraction. -/
def RFV (w : World) (v : Value) (x : Rat) : Prop := ∃ s neg A n c s' neg' A' n' c', v = .agg #[.int .i64 s, .bool neg, .slice A n c, .int .i64 s', .bool neg', .slice A' n' c'] ∧ RI w s neg A n c x.num ∧ RI w s' neg' A' n' c' (x.den : Int)
theorem RFV.keep {w w' : World} {v : Value} {x : Rat} (h : RFV w v x) (hb : Below w.heap.size w w') : RFV w' v x := by
  obtain ⟨s, neg, A, n, c, s', neg', A', n', c', e, h1, h2⟩ := h
  exact ⟨s, neg, A, n, c, s', neg', A', n', c', e, h1.keep hb, h2.keep hb⟩
theorem IV.drew {w : World} {v : Value} {z : Int} (h : IV w v z) : IV w.drew v z := h
theorem RFV.drew {w : World} {v : Value} {x : Rat} (h : RFV w v x) : RFV w.drew v x := h

/-- What is known of a value. -/
inductive Sp where
  | val (v : Value)
  | int (z : Int)
  | rat (x : Rat)
def Sp.ok : Sp → Value → World → Prop
  | .val v, u, _ => u = v
  | .int z, u, w => IV w u z
  | .rat x, u, w => RFV w u x
theorem Sp.keep {s : Sp} {u : Value} {w w' : World} (h : s.ok u w) (hb : Below w.heap.size w w') : s.ok u w' := by
  cases s with
  | val v => exact h
  | int z => exact IV.keep h hb
  | rat x => exact RFV.keep h hb
/-- What the operations of a region make. -/
def Spl (L : List Sp) (i : Nat) (u : Value) (w : World) : Prop := (L.getD i (.val (.int .i64 0))).ok u w
theorem Spl.keep {L : List Sp} (i : Nat) (u : Value) (w w' : World) (hb : Below w.heap.size w w') (h : Spl L i u w) : Spl L i u w' := Sp.keep h hb
/-- A value of which this is known is returned. -/
def RetV (s : Sp) (w : World) (e : Ending) (w' : World) : Prop := ∃ u, e = .returned u ∧ s.ok u w' ∧ Below w.heap.size w w'
theorem RetI.v {z : Int} {w : World} {e : Ending} {w' : World} (h : RetI z w e w') : RetV (.int z) w e w' := by
  obtain ⟨s, neg, A, n, c, rfl, h1, h2⟩ := h
  exact ⟨_, rfl, ⟨s, neg, A, n, c, rfl, h1⟩, h2⟩

theorem iv_times (K : Nat) {u u' : Value} {z z' : Int} {w : World} (h : IV w u z) (h' : IV w u' z') (hK : K ≤ 250000) (hz : z.natAbs < Bs ^ K) (hz' : z'.natAbs < Bs ^ K) : Calls Try.prog 30 #[u, u'] w (RetV (.int (z * z')) w) := by
  obtain ⟨s, neg, A, n, c, rfl, h1⟩ := h
  obtain ⟨s', neg', A', n', c', rfl, h2⟩ := h'
  exact (rtimes_any _ _ _ _ _ _ _ _ _ _ K _ _ w h1 h2 hK hz hz').mono fun _ _ => RetI.v
theorem iv_plus (K : Nat) {u u' : Value} {z z' : Int} {w : World} (h : IV w u z) (h' : IV w u' z') (hK : K ≤ 250000) (hz : z.natAbs < Bs ^ K) (hz' : z'.natAbs < Bs ^ K) : Calls Try.prog 79 #[u, u'] w (RetV (.int (z + z')) w) := by
  obtain ⟨s, neg, A, n, c, rfl, h1⟩ := h
  obtain ⟨s', neg', A', n', c', rfl, h2⟩ := h'
  exact (rplus_any _ _ _ _ _ _ _ _ _ _ K _ _ w h1 h2 hK hz hz').mono fun _ _ => RetI.v
theorem iv_gcd (K : Nat) {u u' : Value} {z z' : Int} {w : World} (h : IV w u z) (h' : IV w u' z') (hK : K ≤ 250000) (hz : z.natAbs < Bs ^ K) (hz' : z'.natAbs < Bs ^ K) : Calls Try.prog 46 #[u, u'] w (RetV (.int (Nat.gcd z.natAbs z'.natAbs : Nat)) w) := by
  obtain ⟨s, neg, A, n, c, rfl, h1⟩ := h
  obtain ⟨s', neg', A', n', c', rfl, h2⟩ := h'
  exact (rgcd_any _ _ _ _ _ _ _ _ _ _ K _ _ w h1 h2 hK hz hz').mono fun _ _ => RetI.v
theorem iv_compare (K : Nat) {u u' : Value} {z z' : Int} {w : World} (h : IV w u z) (h' : IV w u' z') (hK : K ≤ 250000) (hz : z.natAbs < Bs ^ K) (hz' : z'.natAbs < Bs ^ K) : Calls Try.prog 47 #[u, u'] w (RetV (.val (.int .i64 (sgnI (z - z')))) w) := by
  obtain ⟨s, neg, A, n, c, rfl, h1⟩ := h
  obtain ⟨s', neg', A', n', c', rfl, h2⟩ := h'
  refine (rcompare_any _ _ _ _ _ _ _ _ _ _ K _ _ w h1 h2 hK hz hz').mono ?_
  rintro e w' ⟨rfl, hB⟩
  exact ⟨_, rfl, rfl, hB⟩
theorem iv_minus (K : Nat) {u : Value} {z : Int} {w : World} (h : IV w u z) (hK : K ≤ 250000) (hz : z.natAbs < Bs ^ K) : Calls Try.prog 60 #[u] w (RetV (.int (-z)) w) := by
  obtain ⟨s, neg, A, n, c, rfl, h1⟩ := h
  exact (rminus_any _ _ _ _ _ _ w h1 (by have := h1.len hz; omega)).mono fun _ _ => RetI.v
theorem iv_sign (K : Nat) {u : Value} {z : Int} {w : World} (h : IV w u z) (hK : K ≤ 250000) (hz : z.natAbs < Bs ^ K) : Calls Try.prog 59 #[u] w (RetV (.val (.int .i64 (sgnI z))) w) := by
  obtain ⟨s, neg, A, n, c, rfl, h1⟩ := h
  refine (rsign_any _ _ _ _ _ _ w h1 (by have := h1.len hz; omega)).mono ?_
  rintro e w' ⟨rfl, hB⟩
  exact ⟨_, rfl, rfl, hB⟩
theorem iv_of (z : Int) (w : World) (h1 : -9223372036854775808 ≤ z) (h2 : z ≤ 9223372036854775807) : Calls Try.prog 29 #[.int .i64 z] w (RetV (.int z) w) := (rof_any z w h1 h2).mono fun _ _ => RetI.v
theorem iv_make (K : Nat) {u u' : Value} {z z' : Int} {w : World} (h : IV w u z) (h' : IV w u' z') (hK : K ≤ 250000) (hz : z.natAbs < Bs ^ K) (hz' : z'.natAbs < Bs ^ K) (h0 : z' ≠ 0) : Calls Try.prog 28 #[u, u'] w (RetV (.rat (qt z z')) w) := by
  obtain ⟨s, neg, A, n, c, rfl, h1⟩ := h
  obtain ⟨s', neg', A', n', c', rfl, h2⟩ := h'
  refine (rmake_any _ _ _ _ _ _ _ _ _ _ K _ _ w h1 h2 hK hz hz' h0).mono ?_
  obtain ⟨e1, e2⟩ := qt_parts z z' h0
  rw [e1, e2]
  rintro e w' ⟨s, neg, A, n, c, s', neg', A', n', c', rfl, k1, k2, k3⟩
  exact ⟨_, rfl, ⟨s, neg, A, n, c, s', neg', A', n', c', rfl, k1, k2⟩, k3⟩

/-- A box of six cells. -/
def B6 (g : Nat) (a b c d e f : Value) (w : World) : Prop := w.cell? ⟨g, 0, none⟩ = some a ∧ w.cell? ⟨g, 1, none⟩ = some b ∧ w.cell? ⟨g, 2, none⟩ = some c ∧ w.cell? ⟨g, 3, none⟩ = some d ∧ w.cell? ⟨g, 4, none⟩ = some e ∧ w.cell? ⟨g, 5, none⟩ = some f ∧ g < w.heap.size
theorem B6.keep {g : Nat} {a b c d e f : Value} {w w' : World} (h : B6 g a b c d e f w) (hb : Below w.heap.size w w') : B6 g a b c d e f w' := by
  obtain ⟨h0, h1, h2, h3, h4, h5, hz⟩ := h
  exact ⟨(hb.cell (p := ⟨g, 0, none⟩) hz).trans h0, (hb.cell (p := ⟨g, 1, none⟩) hz).trans h1, (hb.cell (p := ⟨g, 2, none⟩) hz).trans h2, (hb.cell (p := ⟨g, 3, none⟩) hz).trans h3, (hb.cell (p := ⟨g, 4, none⟩) hz).trans h4, (hb.cell (p := ⟨g, 5, none⟩) hz).trans h5, Nat.lt_of_lt_of_le hz hb.size⟩
theorem W6.put {g : Nat} {w : World} (h : W6 g w) (a b c d e f : Value) : B6 g a b c d e f (set6 w g a b c d e f) := by
  obtain ⟨⟨p, q, r, p', q', r', h0, h1, h2, h3, h4, h5⟩, -, hx⟩ := h
  have hz := hx.lt
  refine ⟨?_, ?_, ?_, ?_, ?_, ?_, ?_⟩
  · simp [set6, go_sem, h0]
  · simp [set6, go_sem, h1]
  · simp [set6, go_sem, h2]
  · simp [set6, go_sem, h3]
  · simp [set6, go_sem, h4]
  · simp [set6, go_sem, h5]
  · exact Nat.lt_of_lt_of_le hz (Nat.le_trans (Nat.le_trans (Nat.le_trans (size_set _ _ _ _) (size_set _ _ _ _)) (size_set _ _ _ _)) (Nat.le_trans (Nat.le_trans (size_set _ _ _ _) (size_set _ _ _ _)) (size_set _ _ _ _)))

/-- The boxes of two fractions, and one for the result. -/
structure F2 (w : World) (a b c d e f a' b' c' d' e' f' : Value) (wx : World) : Prop where
  below : Below w.heap.size w wx
  ba : B6 w.heap.size a b c d e f wx
  bb : B6 (w.heap.size + 1) a' b' c' d' e' f' wx
  wc : W6 (w.heap.size + 1 + 1) wx
theorem F2.keep {w : World} {a b c d e f a' b' c' d' e' f' : Value} (wx wy : World) (h : F2 w a b c d e f a' b' c' d' e' f' wx) (hb : Below wx.heap.size wx wy) : F2 w a b c d e f a' b' c' d' e' f' wy :=
  ⟨h.below.trans (hb.mono h.below.size), h.ba.keep hb, h.bb.keep hb, h.wc.keep hb⟩
theorem F2.new (w : World) (a b c d e f a' b' c' d' e' f' p q r p' q' r' : Value) : F2 w a b c d e f a' b' c' d' e' f' (((w.alloc (.cells #[a, b, c, d, e, f] 38)).alloc (.cells #[a', b', c', d', e', f'] 38)).alloc (.cells #[p, q, r, p', q', r'] 38)) := by
  refine ⟨(((Below.refl _ _).alloc (Nat.le_refl _) _).alloc (by simp) _).alloc (by simp; omega) _, ?_, ?_, W6.new _ _ _ _ _ _ _ (by simp)⟩
  · simp [B6, go_sem]
  · simp [B6, go_sem]
/-- The box of one fraction, and one for the result. -/
structure F1 (w : World) (a b c d e f : Value) (wx : World) : Prop where
  below : Below w.heap.size w wx
  ba : B6 w.heap.size a b c d e f wx
  wc : W6 (w.heap.size + 1) wx
theorem F1.keep {w : World} {a b c d e f : Value} (wx wy : World) (h : F1 w a b c d e f wx) (hb : Below wx.heap.size wx wy) : F1 w a b c d e f wy :=
  ⟨h.below.trans (hb.mono h.below.size), h.ba.keep hb, h.wc.keep hb⟩
theorem F1.new (w : World) (a b c d e f p q r p' q' r' : Value) : F1 w a b c d e f ((w.alloc (.cells #[a, b, c, d, e, f] 38)).alloc (.cells #[p, q, r, p', q', r'] 38)) := by
  refine ⟨((Below.refl _ _).alloc (Nat.le_refl _) _).alloc (by simp) _, ?_, W6.new _ _ _ _ _ _ _ (by simp)⟩
  simp [B6, go_sem]

/-- The result lies in its box. -/
def EndR (w : World) (g : Nat) (x : Rat) (wf : World) : Prop := ∃ s neg A n c s' neg' A' n' c', B6 g (.int .i64 s) (.bool neg) (.slice A n c) (.int .i64 s') (.bool neg') (.slice A' n' c') wf ∧ RI wf s neg A n c x.num ∧ RI wf s' neg' A' n' c' (x.den : Int) ∧ Below w.heap.size w wf
theorem endR_store {w wx : World} {g : Nat} {x : Rat} {s s' : Int} {neg neg' : Bool} {A A' : Option Addr} {n c n' c' : Nat} (hB : Below w.heap.size w wx) (hg : w.heap.size ≤ g) (hW : W6 g wx) (h : RI wx s neg A n c x.num) (h' : RI wx s' neg' A' n' c' (x.den : Int)) : EndR w g x (set6 wx g (.int .i64 s) (.bool neg) (.slice A n c) (.int .i64 s') (.bool neg') (.slice A' n' c')) :=
  ⟨s, neg, A, n, c, s', neg', A', n', c', hW.put _ _ _ _ _ _, h.set_6 hW.2.2 _ _ _ _ _ _, h'.set_6 hW.2.2 _ _ _ _ _ _, set6_below hB hg _ _ _ _ _ _⟩

end Go.Proofs.Ytfhmhkbjcccejaa

namespace Go.Proofs.Ytfhmhkbjcccejaa
open Go.RowKit

theorem den_bound (x : Rat) {K : Nat} (h : x.den < Bs ^ K) : ((x.den : Int)).natAbs < Bs ^ K := by rw [Int.natAbs_natCast]; exact h
theorem den_nz2 (x y : Rat) : (x.den : Int) * (y.den : Int) ≠ 0 := Int.mul_ne_zero (by have := x.den_nz; omega) (by have := y.den_nz; omega)
theorem mul_bound {a b : Int} {K : Nat} (ha : a.natAbs < Bs ^ K) (hb : b.natAbs < Bs ^ K) : (a * b).natAbs < Bs ^ (2 * K) := by
  rw [Int.natAbs_mul, Nat.two_mul, Nat.pow_add]
  exact Nat.mul_lt_mul'' ha hb
theorem add_bound {a b : Int} {K : Nat} (ha : a.natAbs < Bs ^ K) (hb : b.natAbs < Bs ^ K) : (a + b).natAbs < Bs ^ (K + 1) := by
  have h : (a + b).natAbs ≤ a.natAbs + b.natAbs := Int.natAbs_add_le _ _
  have e : Bs ^ (K + 1) = Bs ^ K * Bs := Nat.pow_succ ..
  have e2 : Bs ^ K * 2 ≤ Bs ^ K * Bs := Nat.mul_le_mul_left _ (by decide)
  omega
theorem qt_eq (z z' : Int) : qt z z' = Rat.divInt z z' := by
  unfold qt
  cases z' with
  | ofNat n =>
    rw [if_neg (by simp)]
    rfl
  | negSucc n =>
    rw [if_pos (Int.negSucc_lt_zero n)]
    simp [Rat.divInt, mkRat, Rat.normalize_eq]
theorem qt_div (x y : Rat) : qt (x.num * (y.den : Int)) ((x.den : Int) * y.num) = x / y := by
  rw [qt_eq, Rat.div_def, Rat.inv_def]
  rw [← Rat.divInt_mul_divInt, Rat.num_divInt_den]
/-- What the sizes of a sum, a product and a quotient are. -/
theorem add_size {x y : Rat} {K : Nat} (hx : x.num.natAbs < Bs ^ K ∧ x.den < Bs ^ K) (hy : y.num.natAbs < Bs ^ K ∧ y.den < Bs ^ K) : (x + y).num.natAbs < Bs ^ (2 * K + 1) ∧ (x + y).den < Bs ^ (2 * K + 1) := by
  have hd := den_bound x hx.2
  have hd' := den_bound y hy.2
  have h := qt_le (x.num * (y.den : Int) + y.num * (x.den : Int)) _ (den_nz2 x y)
  rw [qt_add] at h
  exact ⟨Nat.lt_of_le_of_lt h.1 (add_bound (mul_bound hx.1 hd') (mul_bound hy.1 hd)), Nat.lt_of_le_of_lt h.2 (Nat.lt_of_lt_of_le (mul_bound hd hd') (Nat.pow_le_pow_right (by decide) (by omega)))⟩

set_option maxRecDepth 100000 in
set_option maxHeartbeats 20000000 in
theorem rv_times (K : Nat) {u u' : Value} {x y : Rat} {w : World} (h : RFV w u x) (h' : RFV w u' y) (hK : 2 * K + 1 ≤ 250000) (hx : x.num.natAbs < Bs ^ K ∧ x.den < Bs ^ K) (hy : y.num.natAbs < Bs ^ K ∧ y.den < Bs ^ K) : Calls Try.prog 52 #[u, u'] w (RetV (.rat (x * y)) w) := by
  obtain ⟨s1, n1, A1, m1, c1, s2, n2, A2, m2, c2, rfl, r1, r2⟩ := h
  have R1 := Lib.hid r1
  have R2 := Lib.hid r2
  obtain ⟨s3, n3, A3, m3, c3, s4, n4, A4, m4, c4, rfl, r3, r4⟩ := h'
  have R3 := Lib.hid r3
  have R4 := Lib.hid r4
  clear r3 r4
  clear r1 r2
  have hd := den_bound x hx.2
  have hd' := den_bound y hy.2
  have HT1 : Hid (∀ wx u u', IV wx u x.num → IV wx u' y.num → Calls Try.prog 30 #[u, u'] wx (RetV (.int (x.num * y.num)) wx)) := fun wx u u' k1 k2 => iv_times K k1 k2 (by omega) hx.1 hy.1
  have HT2 : Hid (∀ wx u u', IV wx u (x.den : Int) → IV wx u' (y.den : Int) → Calls Try.prog 30 #[u, u'] wx (RetV (.int ((x.den : Int) * (y.den : Int))) wx)) := fun wx u u' k1 k2 => iv_times K k1 k2 (by omega) hd hd'
  have HMk : Hid (∀ wx u u', IV wx u (x.num * y.num) → IV wx u' ((x.den : Int) * (y.den : Int)) → Calls Try.prog 28 #[u, u'] wx (RetV (.rat (x * y)) wx)) := fun wx u u' k1 k2 => by
    have := iv_make (2 * K) k1 k2 (by omega) (mul_bound hx.1 hy.1) (mul_bound hd hd') (den_nz2 x y)
    rw [qt_mul] at this
    exact this
  clear hd hd'
  clear hK hx hy
  generalize x * y = z at HMk ⊢
  generalize x.num * y.num = t1 at HT1 HMk
  generalize (x.den : Int) * (y.den : Int) = t2 at HT2 HMk
  generalize x.num = p1 at R1 HT1
  generalize y.num = p2 at R3 HT1
  generalize (x.den : Int) = q1 at R2 HT2
  generalize (y.den : Int) = q2 at R4 HT2
  go_enter Try.func52, Try.ntmps52
  go_upto_region 1 with fail
  generalize hX : ((w.alloc _).alloc _).alloc _ = X
  have HX : Hid (F2 w (.int .i64 s1) (.bool n1) (.slice A1 m1 c1) (.int .i64 s2) (.bool n2) (.slice A2 m2 c2) (.int .i64 s3) (.bool n3) (.slice A3 m3 c3) (.int .i64 s4) (.bool n4) (.slice A4 m4 c4) X) := by
    subst hX
    exact F2.new w _ _ _ _ _ _ _ _ _ _ _ _ _ _ _ _ _ _
  clear hX
  refine wp_region_flow_store 11 [5, 6, 7, 8, 9, 10, 11, 12, 13, 14, 15] (fun i => 5 + i) (F2 w (.int .i64 s1) (.bool n1) (.slice A1 m1 c1) (.int .i64 s2) (.bool n2) (.slice A2 m2 c2) (.int .i64 s3) (.bool n3) (.slice A3 m3 c3) (.int .i64 s4) (.bool n4) (.slice A4 m4 c4)) (EndR w (w.heap.size + 1 + 1) z) (Spl [.val (.pointer (some ⟨w.heap.size, 0, none⟩)), .int p1, .val (.pointer (some ⟨w.heap.size + 1, 0, none⟩)), .int p2, .int t1, .val (.pointer (some ⟨w.heap.size, 3, none⟩)), .int q1, .val (.pointer (some ⟨w.heap.size + 1, 3, none⟩)), .int q2, .int t2, .rat z]) (by kernel_rfl) (by kernel_rfl) (by kernel_rfl) (by kernel_rfl) (by kernel_rfl) (fun i j _ _ h => Nat.add_left_cancel (show 5 + i = 5 + j from h)) (by decide) F2.keep Spl.keep ?_ ?_ ?_ ?_
  · exact HX.out.keep _ _ (Below.drew (Below.refl _ _))
  · intro i v wx o T' K hi ho hF hdep hin hout hK
    have q5 := hin 5 (by decide)
    have q6 := hin 6 (by decide)
    have q7 := hin 7 (by decide)
    have q8 := hin 8 (by decide)
    have q9 := hin 9 (by decide)
    have q10 := hin 10 (by decide)
    have q11 := hin 11 (by decide)
    have q12 := hin 12 (by decide)
    have q13 := hin 13 (by decide)
    have q14 := hin 14 (by decide)
    have q15 := hin 15 (by decide)
    have sl2 : T'[2]? = some (.pointer (some ⟨w.heap.size, 0, none⟩)) := (hout 2 (by decide)).trans rfl
    have sl3 : T'[3]? = some (.pointer (some ⟨w.heap.size + 1, 0, none⟩)) := (hout 3 (by decide)).trans rfl
    have sl4 : T'[4]? = some (.pointer (some ⟨w.heap.size + 1 + 1, 0, none⟩)) := (hout 4 (by decide)).trans rfl
    clear hin hout
    have HF := Lib.hid hF
    have HD := Lib.hid hdep
    clear hF hdep
    rcases (by omega : i = 0 ∨ i = 1 ∨ i = 2 ∨ i = 3 ∨ i = 4 ∨ i = 5 ∨ i = 6 ∨ i = 7 ∨ i = 8 ∨ i = 9 ∨ i = 10) with rfl | rfl | rfl | rfl | rfl | rfl | rfl | rfl | rfl | rfl | rfl
    · obtain rfl := Option.some.inj ho
      clear q5 q6 q7 q8 q9 q10 q11 q12 q13 q14 q15 sl3 sl4 ho hi
      go_simp
      exact hK _ _ (Below.refl _ _) rfl
    · obtain rfl := Option.some.inj ho
      have e1 : v 5 = (.pointer (some ⟨w.heap.size, 0, none⟩)) := HD.out ⟨0, .data⟩ (by simp) rfl
      rw [e1] at q5
      obtain ⟨k0, k1, k2, k3, k4, k5, k6⟩ := HF.out.ba
      have hP := (⟨s1, n1, A1, m1, c1, rfl, R1.out.keep HF.out.below⟩ : IV wx (.agg #[.int .i64 s1, .bool n1, .slice A1 m1 c1]) p1)
      clear q6 q7 q8 q9 q10 q11 q12 q13 q14 q15 sl2 sl3 sl4 ho hi
      go_simp
      exact hK _ _ (Below.refl _ _) hP
    · obtain rfl := Option.some.inj ho
      clear q5 q6 q7 q8 q9 q10 q11 q12 q13 q14 q15 sl2 sl4 ho hi
      go_simp
      exact hK _ _ (Below.refl _ _) rfl
    · obtain rfl := Option.some.inj ho
      have e1 : v 7 = (.pointer (some ⟨w.heap.size + 1, 0, none⟩)) := HD.out ⟨2, .data⟩ (by simp) rfl
      rw [e1] at q7
      obtain ⟨k0, k1, k2, k3, k4, k5, k6⟩ := HF.out.bb
      have hP := (⟨s3, n3, A3, m3, c3, rfl, R3.out.keep HF.out.below⟩ : IV wx (.agg #[.int .i64 s3, .bool n3, .slice A3 m3 c3]) p2)
      clear q5 q6 q8 q9 q10 q11 q12 q13 q14 q15 sl2 sl3 sl4 ho hi
      go_simp
      exact hK _ _ (Below.refl _ _) hP
    · obtain rfl := Option.some.inj ho
      have h0 : IV wx (v 6) p1 := HD.out ⟨1, .data⟩ (by simp) rfl
      have h1 : IV wx (v 8) p2 := HD.out ⟨3, .data⟩ (by simp) rfl
      clear q5 q7 q9 q10 q11 q12 q13 q14 q15 sl2 sl3 sl4 ho hi
      go_simp
      (with_reducible refine (HT1.out _ _ _ h0 h1).mono ?_)
      rintro e w2 ⟨u, rfl, hu, hB⟩
      exact hK _ _ hB hu
    · obtain rfl := Option.some.inj ho
      clear q5 q6 q7 q8 q9 q10 q11 q12 q13 q14 q15 sl3 sl4 ho hi
      go_simp
      exact hK _ _ (Below.refl _ _) rfl
    · obtain rfl := Option.some.inj ho
      have e1 : v 10 = (.pointer (some ⟨w.heap.size, 3, none⟩)) := HD.out ⟨5, .data⟩ (by simp) rfl
      rw [e1] at q10
      obtain ⟨k0, k1, k2, k3, k4, k5, k6⟩ := HF.out.ba
      have hP := (⟨s2, n2, A2, m2, c2, rfl, R2.out.keep HF.out.below⟩ : IV wx (.agg #[.int .i64 s2, .bool n2, .slice A2 m2 c2]) q1)
      clear q5 q6 q7 q8 q9 q11 q12 q13 q14 q15 sl2 sl3 sl4 ho hi
      go_simp
      exact hK _ _ (Below.refl _ _) hP
    · obtain rfl := Option.some.inj ho
      clear q5 q6 q7 q8 q9 q10 q11 q12 q13 q14 q15 sl2 sl4 ho hi
      go_simp
      exact hK _ _ (Below.refl _ _) rfl
    · obtain rfl := Option.some.inj ho
      have e1 : v 12 = (.pointer (some ⟨w.heap.size + 1, 3, none⟩)) := HD.out ⟨7, .data⟩ (by simp) rfl
      rw [e1] at q12
      obtain ⟨k0, k1, k2, k3, k4, k5, k6⟩ := HF.out.bb
      have hP := (⟨s4, n4, A4, m4, c4, rfl, R4.out.keep HF.out.below⟩ : IV wx (.agg #[.int .i64 s4, .bool n4, .slice A4 m4 c4]) q2)
      clear q5 q6 q7 q8 q9 q10 q11 q13 q14 q15 sl2 sl3 sl4 ho hi
      go_simp
      exact hK _ _ (Below.refl _ _) hP
    · obtain rfl := Option.some.inj ho
      have h0 : IV wx (v 11) q1 := HD.out ⟨6, .data⟩ (by simp) rfl
      have h1 : IV wx (v 13) q2 := HD.out ⟨8, .data⟩ (by simp) rfl
      clear q5 q6 q7 q8 q9 q10 q12 q14 q15 sl2 sl3 sl4 ho hi
      go_simp
      (with_reducible refine (HT2.out _ _ _ h0 h1).mono ?_)
      rintro e w2 ⟨u, rfl, hu, hB⟩
      exact hK _ _ hB hu
    · obtain rfl := Option.some.inj ho
      have h0 : IV wx (v 9) t1 := HD.out ⟨4, .data⟩ (by simp) rfl
      have h1 : IV wx (v 14) t2 := HD.out ⟨9, .data⟩ (by simp) rfl
      clear q5 q6 q7 q8 q10 q11 q12 q13 q15 sl2 sl3 sl4 ho hi
      go_simp
      (with_reducible refine (HMk.out _ _ _ h0 h1).mono ?_)
      rintro e w2 ⟨u, rfl, hu, hB⟩
      exact hK _ _ hB hu
  · intro v wx o T' K ho hF hall hin hout hK
    obtain rfl := Option.some.inj ho
    have sl4 : T'[4]? = some (.pointer (some ⟨w.heap.size + 1 + 1, 0, none⟩)) := (hout 4 (by decide)).trans rfl
    have q15 := hin 15 (by decide)
    have h0 : RFV wx (v 15) z := hall 10 (by decide)
    clear hin hout hall ho
    obtain ⟨s5, n5, A5, m5, c5, s6, n6, A6, m6, c6, e5, h5, h6⟩ := h0
    rw [e5] at q15
    have HR := Lib.hid (endR_store hF.below (show w.heap.size ≤ w.heap.size + 1 + 1 by omega) hF.wc h5 h6)
    obtain ⟨⟨o0, o1, o2, o3, o4, o5, p0, p1, p2, p3, p4, p5⟩, ⟨f0, f1, f2, f3, f4, f5⟩, -⟩ := hF.wc
    clear e5 h5 h6 hF
    go_simp
    exact hK _ HR.out
  · intro v wx hE
    obtain ⟨s5, n5, A5, m5, c5, s6, n6, A6, m6, c6, ⟨k0, k1, k2, k3, k4, k5, -⟩, h5, h6, hB⟩ := hE
    have H5 := Lib.hid h5
    have H6 := Lib.hid h6
    have HB := Lib.hid hB
    clear h5 h6 hB
    simp only [over, List.setIfInBounds_toArray, List.set_cons_zero, List.set_cons_succ]
    generalize v 5 = v5
    generalize v 6 = v6
    generalize v 7 = v7
    generalize v 8 = v8
    generalize v 9 = v9
    generalize v 10 = v10
    generalize v 11 = v11
    generalize v 12 = v12
    generalize v 13 = v13
    generalize v 14 = v14
    generalize v 15 = v15
    go_wp2_with fail
    exact bodyPost_ret (v := .agg #[.int .i64 s5, .bool n5, .slice A5 m5 c5, .int .i64 s6, .bool n6, .slice A6 m6 c6]) (by simp [results, Try.results52, go_sem, *]) rfl ⟨_, rfl, ⟨s5, n5, A5, m5, c5, s6, n6, A6, m6, c6, rfl, H5.out, H6.out⟩, HB.out⟩

set_option maxRecDepth 100000 in
set_option maxHeartbeats 20000000 in
theorem rv_over (K : Nat) {u u' : Value} {x y : Rat} {w : World} (h : RFV w u x) (h' : RFV w u' y) (hK : 2 * K + 1 ≤ 250000) (hx : x.num.natAbs < Bs ^ K ∧ x.den < Bs ^ K) (hy : y.num.natAbs < Bs ^ K ∧ y.den < Bs ^ K) (hy0 : y ≠ 0) : Calls Try.prog 76 #[u, u'] w (RetV (.rat (x / y)) w) := by
  obtain ⟨s1, n1, A1, m1, c1, s2, n2, A2, m2, c2, rfl, r1, r2⟩ := h
  have R1 := Lib.hid r1
  have R2 := Lib.hid r2
  obtain ⟨s3, n3, A3, m3, c3, s4, n4, A4, m4, c4, rfl, r3, r4⟩ := h'
  have R3 := Lib.hid r3
  have R4 := Lib.hid r4
  clear r3 r4
  clear r1 r2
  have hd := den_bound x hx.2
  have hd' := den_bound y hy.2
  have hn0 : y.num ≠ 0 := fun e => hy0 (Rat.num_eq_zero.1 e)
  have HT1 : Hid (∀ wx u u', IV wx u x.num → IV wx u' (y.den : Int) → Calls Try.prog 30 #[u, u'] wx (RetV (.int (x.num * (y.den : Int))) wx)) := fun wx u u' k1 k2 => iv_times K k1 k2 (by omega) hx.1 hd'
  have HT2 : Hid (∀ wx u u', IV wx u (x.den : Int) → IV wx u' y.num → Calls Try.prog 30 #[u, u'] wx (RetV (.int ((x.den : Int) * y.num)) wx)) := fun wx u u' k1 k2 => iv_times K k1 k2 (by omega) hd hy.1
  have HMk : Hid (∀ wx u u', IV wx u (x.num * (y.den : Int)) → IV wx u' ((x.den : Int) * y.num) → Calls Try.prog 28 #[u, u'] wx (RetV (.rat (x / y)) wx)) := fun wx u u' k1 k2 => by
    have := iv_make (2 * K) k1 k2 (by omega) (mul_bound hx.1 hd') (mul_bound hd hy.1) (Int.mul_ne_zero (by have := x.den_nz; omega) hn0)
    rw [qt_div x y] at this
    exact this
  clear hd hd' hn0
  clear hK hx hy hy0
  generalize x / y = z at HMk ⊢
  generalize x.num * (y.den : Int) = t1 at HT1 HMk
  generalize (x.den : Int) * y.num = t2 at HT2 HMk
  generalize x.num = p1 at R1 HT1
  generalize y.num = p2 at R3 HT2
  generalize (x.den : Int) = q1 at R2 HT2
  generalize (y.den : Int) = q2 at R4 HT1
  go_enter Try.func76, Try.ntmps76
  go_upto_region 1 with fail
  generalize hX : ((w.alloc _).alloc _).alloc _ = X
  have HX : Hid (F2 w (.int .i64 s1) (.bool n1) (.slice A1 m1 c1) (.int .i64 s2) (.bool n2) (.slice A2 m2 c2) (.int .i64 s3) (.bool n3) (.slice A3 m3 c3) (.int .i64 s4) (.bool n4) (.slice A4 m4 c4) X) := by
    subst hX
    exact F2.new w _ _ _ _ _ _ _ _ _ _ _ _ _ _ _ _ _ _
  clear hX
  refine wp_region_flow_store 11 [5, 6, 7, 8, 9, 10, 11, 12, 13, 14, 15] (fun i => 5 + i) (F2 w (.int .i64 s1) (.bool n1) (.slice A1 m1 c1) (.int .i64 s2) (.bool n2) (.slice A2 m2 c2) (.int .i64 s3) (.bool n3) (.slice A3 m3 c3) (.int .i64 s4) (.bool n4) (.slice A4 m4 c4)) (EndR w (w.heap.size + 1 + 1) z) (Spl [.val (.pointer (some ⟨w.heap.size, 0, none⟩)), .int p1, .val (.pointer (some ⟨w.heap.size + 1, 3, none⟩)), .int q2, .int t1, .val (.pointer (some ⟨w.heap.size, 3, none⟩)), .int q1, .val (.pointer (some ⟨w.heap.size + 1, 0, none⟩)), .int p2, .int t2, .rat z]) (by kernel_rfl) (by kernel_rfl) (by kernel_rfl) (by kernel_rfl) (by kernel_rfl) (fun i j _ _ h => Nat.add_left_cancel (show 5 + i = 5 + j from h)) (by decide) F2.keep Spl.keep ?_ ?_ ?_ ?_
  · exact HX.out.keep _ _ (Below.drew (Below.refl _ _))
  · intro i v wx o T' K hi ho hF hdep hin hout hK
    have q5 := hin 5 (by decide)
    have q6 := hin 6 (by decide)
    have q7 := hin 7 (by decide)
    have q8 := hin 8 (by decide)
    have q9 := hin 9 (by decide)
    have q10 := hin 10 (by decide)
    have q11 := hin 11 (by decide)
    have q12 := hin 12 (by decide)
    have q13 := hin 13 (by decide)
    have q14 := hin 14 (by decide)
    have q15 := hin 15 (by decide)
    have sl2 : T'[2]? = some (.pointer (some ⟨w.heap.size, 0, none⟩)) := (hout 2 (by decide)).trans rfl
    have sl3 : T'[3]? = some (.pointer (some ⟨w.heap.size + 1, 0, none⟩)) := (hout 3 (by decide)).trans rfl
    have sl4 : T'[4]? = some (.pointer (some ⟨w.heap.size + 1 + 1, 0, none⟩)) := (hout 4 (by decide)).trans rfl
    clear hin hout
    have HF := Lib.hid hF
    have HD := Lib.hid hdep
    clear hF hdep
    rcases (by omega : i = 0 ∨ i = 1 ∨ i = 2 ∨ i = 3 ∨ i = 4 ∨ i = 5 ∨ i = 6 ∨ i = 7 ∨ i = 8 ∨ i = 9 ∨ i = 10) with rfl | rfl | rfl | rfl | rfl | rfl | rfl | rfl | rfl | rfl | rfl
    · obtain rfl := Option.some.inj ho
      clear q5 q6 q7 q8 q9 q10 q11 q12 q13 q14 q15 sl3 sl4 ho hi
      go_simp
      exact hK _ _ (Below.refl _ _) rfl
    · obtain rfl := Option.some.inj ho
      have e1 : v 5 = (.pointer (some ⟨w.heap.size, 0, none⟩)) := HD.out ⟨0, .data⟩ (by simp) rfl
      rw [e1] at q5
      obtain ⟨k0, k1, k2, k3, k4, k5, k6⟩ := HF.out.ba
      have hP := (⟨s1, n1, A1, m1, c1, rfl, R1.out.keep HF.out.below⟩ : IV wx (.agg #[.int .i64 s1, .bool n1, .slice A1 m1 c1]) p1)
      clear q6 q7 q8 q9 q10 q11 q12 q13 q14 q15 sl2 sl3 sl4 ho hi
      go_simp
      exact hK _ _ (Below.refl _ _) hP
    · obtain rfl := Option.some.inj ho
      clear q5 q6 q7 q8 q9 q10 q11 q12 q13 q14 q15 sl2 sl4 ho hi
      go_simp
      exact hK _ _ (Below.refl _ _) rfl
    · obtain rfl := Option.some.inj ho
      have e1 : v 7 = (.pointer (some ⟨w.heap.size + 1, 3, none⟩)) := HD.out ⟨2, .data⟩ (by simp) rfl
      rw [e1] at q7
      obtain ⟨k0, k1, k2, k3, k4, k5, k6⟩ := HF.out.bb
      have hP := (⟨s4, n4, A4, m4, c4, rfl, R4.out.keep HF.out.below⟩ : IV wx (.agg #[.int .i64 s4, .bool n4, .slice A4 m4 c4]) q2)
      clear q5 q6 q8 q9 q10 q11 q12 q13 q14 q15 sl2 sl3 sl4 ho hi
      go_simp
      exact hK _ _ (Below.refl _ _) hP
    · obtain rfl := Option.some.inj ho
      have h0 : IV wx (v 6) p1 := HD.out ⟨1, .data⟩ (by simp) rfl
      have h1 : IV wx (v 8) q2 := HD.out ⟨3, .data⟩ (by simp) rfl
      clear q5 q7 q9 q10 q11 q12 q13 q14 q15 sl2 sl3 sl4 ho hi
      go_simp
      (with_reducible refine (HT1.out _ _ _ h0 h1).mono ?_)
      rintro e w2 ⟨u, rfl, hu, hB⟩
      exact hK _ _ hB hu
    · obtain rfl := Option.some.inj ho
      clear q5 q6 q7 q8 q9 q10 q11 q12 q13 q14 q15 sl3 sl4 ho hi
      go_simp
      exact hK _ _ (Below.refl _ _) rfl
    · obtain rfl := Option.some.inj ho
      have e1 : v 10 = (.pointer (some ⟨w.heap.size, 3, none⟩)) := HD.out ⟨5, .data⟩ (by simp) rfl
      rw [e1] at q10
      obtain ⟨k0, k1, k2, k3, k4, k5, k6⟩ := HF.out.ba
      have hP := (⟨s2, n2, A2, m2, c2, rfl, R2.out.keep HF.out.below⟩ : IV wx (.agg #[.int .i64 s2, .bool n2, .slice A2 m2 c2]) q1)
      clear q5 q6 q7 q8 q9 q11 q12 q13 q14 q15 sl2 sl3 sl4 ho hi
      go_simp
      exact hK _ _ (Below.refl _ _) hP
    · obtain rfl := Option.some.inj ho
      clear q5 q6 q7 q8 q9 q10 q11 q12 q13 q14 q15 sl2 sl4 ho hi
      go_simp
      exact hK _ _ (Below.refl _ _) rfl
    · obtain rfl := Option.some.inj ho
      have e1 : v 12 = (.pointer (some ⟨w.heap.size + 1, 0, none⟩)) := HD.out ⟨7, .data⟩ (by simp) rfl
      rw [e1] at q12
      obtain ⟨k0, k1, k2, k3, k4, k5, k6⟩ := HF.out.bb
      have hP := (⟨s3, n3, A3, m3, c3, rfl, R3.out.keep HF.out.below⟩ : IV wx (.agg #[.int .i64 s3, .bool n3, .slice A3 m3 c3]) p2)
      clear q5 q6 q7 q8 q9 q10 q11 q13 q14 q15 sl2 sl3 sl4 ho hi
      go_simp
      exact hK _ _ (Below.refl _ _) hP
    · obtain rfl := Option.some.inj ho
      have h0 : IV wx (v 11) q1 := HD.out ⟨6, .data⟩ (by simp) rfl
      have h1 : IV wx (v 13) p2 := HD.out ⟨8, .data⟩ (by simp) rfl
      clear q5 q6 q7 q8 q9 q10 q12 q14 q15 sl2 sl3 sl4 ho hi
      go_simp
      (with_reducible refine (HT2.out _ _ _ h0 h1).mono ?_)
      rintro e w2 ⟨u, rfl, hu, hB⟩
      exact hK _ _ hB hu
    · obtain rfl := Option.some.inj ho
      have h0 : IV wx (v 9) t1 := HD.out ⟨4, .data⟩ (by simp) rfl
      have h1 : IV wx (v 14) t2 := HD.out ⟨9, .data⟩ (by simp) rfl
      clear q5 q6 q7 q8 q10 q11 q12 q13 q15 sl2 sl3 sl4 ho hi
      go_simp
      (with_reducible refine (HMk.out _ _ _ h0 h1).mono ?_)
      rintro e w2 ⟨u, rfl, hu, hB⟩
      exact hK _ _ hB hu
  · intro v wx o T' K ho hF hall hin hout hK
    obtain rfl := Option.some.inj ho
    have sl4 : T'[4]? = some (.pointer (some ⟨w.heap.size + 1 + 1, 0, none⟩)) := (hout 4 (by decide)).trans rfl
    have q15 := hin 15 (by decide)
    have h0 : RFV wx (v 15) z := hall 10 (by decide)
    clear hin hout hall ho
    obtain ⟨s5, n5, A5, m5, c5, s6, n6, A6, m6, c6, e5, h5, h6⟩ := h0
    rw [e5] at q15
    have HR := Lib.hid (endR_store hF.below (show w.heap.size ≤ w.heap.size + 1 + 1 by omega) hF.wc h5 h6)
    obtain ⟨⟨o0, o1, o2, o3, o4, o5, p0, p1, p2, p3, p4, p5⟩, ⟨f0, f1, f2, f3, f4, f5⟩, -⟩ := hF.wc
    clear e5 h5 h6 hF
    go_simp
    exact hK _ HR.out
  · intro v wx hE
    obtain ⟨s5, n5, A5, m5, c5, s6, n6, A6, m6, c6, ⟨k0, k1, k2, k3, k4, k5, -⟩, h5, h6, hB⟩ := hE
    have H5 := Lib.hid h5
    have H6 := Lib.hid h6
    have HB := Lib.hid hB
    clear h5 h6 hB
    simp only [over, List.setIfInBounds_toArray, List.set_cons_zero, List.set_cons_succ]
    generalize v 5 = v5
    generalize v 6 = v6
    generalize v 7 = v7
    generalize v 8 = v8
    generalize v 9 = v9
    generalize v 10 = v10
    generalize v 11 = v11
    generalize v 12 = v12
    generalize v 13 = v13
    generalize v 14 = v14
    generalize v 15 = v15
    go_wp2_with fail
    exact bodyPost_ret (v := .agg #[.int .i64 s5, .bool n5, .slice A5 m5 c5, .int .i64 s6, .bool n6, .slice A6 m6 c6]) (by simp [results, Try.results76, go_sem, *]) rfl ⟨_, rfl, ⟨s5, n5, A5, m5, c5, s6, n6, A6, m6, c6, rfl, H5.out, H6.out⟩, HB.out⟩

set_option maxRecDepth 100000 in
set_option maxHeartbeats 20000000 in
theorem rv_plus (K : Nat) {u u' : Value} {x y : Rat} {w : World} (h : RFV w u x) (h' : RFV w u' y) (hK : 2 * K + 1 ≤ 250000) (hx : x.num.natAbs < Bs ^ K ∧ x.den < Bs ^ K) (hy : y.num.natAbs < Bs ^ K ∧ y.den < Bs ^ K) : Calls Try.prog 51 #[u, u'] w (RetV (.rat (x + y)) w) := by
  obtain ⟨s1, n1, A1, m1, c1, s2, n2, A2, m2, c2, rfl, r1, r2⟩ := h
  have R1 := Lib.hid r1
  have R2 := Lib.hid r2
  obtain ⟨s3, n3, A3, m3, c3, s4, n4, A4, m4, c4, rfl, r3, r4⟩ := h'
  have R3 := Lib.hid r3
  have R4 := Lib.hid r4
  clear r3 r4
  clear r1 r2
  have hd := den_bound x hx.2
  have hd' := den_bound y hy.2
  have HT1 : Hid (∀ wx u u', IV wx u x.num → IV wx u' (y.den : Int) → Calls Try.prog 30 #[u, u'] wx (RetV (.int (x.num * (y.den : Int))) wx)) := fun wx u u' k1 k2 => iv_times K k1 k2 (by omega) hx.1 hd'
  have HT2 : Hid (∀ wx u u', IV wx u y.num → IV wx u' (x.den : Int) → Calls Try.prog 30 #[u, u'] wx (RetV (.int (y.num * (x.den : Int))) wx)) := fun wx u u' k1 k2 => iv_times K k1 k2 (by omega) hy.1 hd
  have HP : Hid (∀ wx u u', IV wx u (x.num * (y.den : Int)) → IV wx u' (y.num * (x.den : Int)) → Calls Try.prog 79 #[u, u'] wx (RetV (.int (x.num * (y.den : Int) + y.num * (x.den : Int))) wx)) := fun wx u u' k1 k2 => iv_plus (2 * K) k1 k2 (by omega) (mul_bound hx.1 hd') (mul_bound hy.1 hd)
  have HT3 : Hid (∀ wx u u', IV wx u (x.den : Int) → IV wx u' (y.den : Int) → Calls Try.prog 30 #[u, u'] wx (RetV (.int ((x.den : Int) * (y.den : Int))) wx)) := fun wx u u' k1 k2 => iv_times K k1 k2 (by omega) hd hd'
  have HMk : Hid (∀ wx u u', IV wx u (x.num * (y.den : Int) + y.num * (x.den : Int)) → IV wx u' ((x.den : Int) * (y.den : Int)) → Calls Try.prog 28 #[u, u'] wx (RetV (.rat (x + y)) wx)) := fun wx u u' k1 k2 => by
    have := iv_make (2 * K + 1) k1 k2 hK (add_bound (mul_bound hx.1 hd') (mul_bound hy.1 hd)) (Nat.lt_of_lt_of_le (mul_bound hd hd') (Nat.pow_le_pow_right (by decide) (by omega))) (den_nz2 x y)
    rw [qt_add] at this
    exact this
  clear hd hd'
  clear hK hx hy
  generalize x + y = z at HMk ⊢
  generalize x.num * (y.den : Int) + y.num * (x.den : Int) = t3 at HP HMk
  generalize x.num * (y.den : Int) = t1 at HT1 HP
  generalize y.num * (x.den : Int) = t2 at HT2 HP
  generalize (x.den : Int) * (y.den : Int) = t4 at HT3 HMk
  generalize x.num = p1 at R1 HT1
  generalize y.num = p2 at R3 HT2
  generalize (x.den : Int) = q1 at R2 HT2 HT3
  generalize (y.den : Int) = q2 at R4 HT1 HT3
  go_enter Try.func51, Try.ntmps51
  go_upto_region 1 with fail
  generalize hX : ((w.alloc _).alloc _).alloc _ = X
  have HX : Hid (F2 w (.int .i64 s1) (.bool n1) (.slice A1 m1 c1) (.int .i64 s2) (.bool n2) (.slice A2 m2 c2) (.int .i64 s3) (.bool n3) (.slice A3 m3 c3) (.int .i64 s4) (.bool n4) (.slice A4 m4 c4) X) := by
    subst hX
    exact F2.new w _ _ _ _ _ _ _ _ _ _ _ _ _ _ _ _ _ _
  clear hX
  refine wp_region_flow_store 17 [5, 6, 7, 8, 9, 10, 11, 12, 13, 14, 15, 16, 17, 18, 19, 20, 21] (fun i => 5 + i) (F2 w (.int .i64 s1) (.bool n1) (.slice A1 m1 c1) (.int .i64 s2) (.bool n2) (.slice A2 m2 c2) (.int .i64 s3) (.bool n3) (.slice A3 m3 c3) (.int .i64 s4) (.bool n4) (.slice A4 m4 c4)) (EndR w (w.heap.size + 1 + 1) z) (Spl [.val (.pointer (some ⟨w.heap.size, 0, none⟩)), .int p1, .val (.pointer (some ⟨w.heap.size + 1, 3, none⟩)), .int q2, .int t1, .val (.pointer (some ⟨w.heap.size + 1, 0, none⟩)), .int p2, .val (.pointer (some ⟨w.heap.size, 3, none⟩)), .int q1, .int t2, .int t3, .val (.pointer (some ⟨w.heap.size, 3, none⟩)), .int q1, .val (.pointer (some ⟨w.heap.size + 1, 3, none⟩)), .int q2, .int t4, .rat z]) (by kernel_rfl) (by kernel_rfl) (by kernel_rfl) (by kernel_rfl) (by kernel_rfl) (fun i j _ _ h => Nat.add_left_cancel (show 5 + i = 5 + j from h)) (by decide) F2.keep Spl.keep ?_ ?_ ?_ ?_
  · exact HX.out.keep _ _ (Below.drew (Below.refl _ _))
  · intro i v wx o T' K hi ho hF hdep hin hout hK
    have q5 := hin 5 (by decide)
    have q6 := hin 6 (by decide)
    have q7 := hin 7 (by decide)
    have q8 := hin 8 (by decide)
    have q9 := hin 9 (by decide)
    have q10 := hin 10 (by decide)
    have q11 := hin 11 (by decide)
    have q12 := hin 12 (by decide)
    have q13 := hin 13 (by decide)
    have q14 := hin 14 (by decide)
    have q15 := hin 15 (by decide)
    have q16 := hin 16 (by decide)
    have q17 := hin 17 (by decide)
    have q18 := hin 18 (by decide)
    have q19 := hin 19 (by decide)
    have q20 := hin 20 (by decide)
    have q21 := hin 21 (by decide)
    have sl2 : T'[2]? = some (.pointer (some ⟨w.heap.size, 0, none⟩)) := (hout 2 (by decide)).trans rfl
    have sl3 : T'[3]? = some (.pointer (some ⟨w.heap.size + 1, 0, none⟩)) := (hout 3 (by decide)).trans rfl
    have sl4 : T'[4]? = some (.pointer (some ⟨w.heap.size + 1 + 1, 0, none⟩)) := (hout 4 (by decide)).trans rfl
    clear hin hout
    have HF := Lib.hid hF
    have HD := Lib.hid hdep
    clear hF hdep
    rcases (by omega : i = 0 ∨ i = 1 ∨ i = 2 ∨ i = 3 ∨ i = 4 ∨ i = 5 ∨ i = 6 ∨ i = 7 ∨ i = 8 ∨ i = 9 ∨ i = 10 ∨ i = 11 ∨ i = 12 ∨ i = 13 ∨ i = 14 ∨ i = 15 ∨ i = 16) with rfl | rfl | rfl | rfl | rfl | rfl | rfl | rfl | rfl | rfl | rfl | rfl | rfl | rfl | rfl | rfl | rfl
    · obtain rfl := Option.some.inj ho
      clear q5 q6 q7 q8 q9 q10 q11 q12 q13 q14 q15 q16 q17 q18 q19 q20 q21 sl3 sl4 ho hi
      go_simp
      exact hK _ _ (Below.refl _ _) rfl
    · obtain rfl := Option.some.inj ho
      have e1 : v 5 = (.pointer (some ⟨w.heap.size, 0, none⟩)) := HD.out ⟨0, .data⟩ (by simp) rfl
      rw [e1] at q5
      obtain ⟨k0, k1, k2, k3, k4, k5, k6⟩ := HF.out.ba
      have hP := (⟨s1, n1, A1, m1, c1, rfl, R1.out.keep HF.out.below⟩ : IV wx (.agg #[.int .i64 s1, .bool n1, .slice A1 m1 c1]) p1)
      clear q6 q7 q8 q9 q10 q11 q12 q13 q14 q15 q16 q17 q18 q19 q20 q21 sl2 sl3 sl4 ho hi
      go_simp
      exact hK _ _ (Below.refl _ _) hP
    · obtain rfl := Option.some.inj ho
      clear q5 q6 q7 q8 q9 q10 q11 q12 q13 q14 q15 q16 q17 q18 q19 q20 q21 sl2 sl4 ho hi
      go_simp
      exact hK _ _ (Below.refl _ _) rfl
    · obtain rfl := Option.some.inj ho
      have e1 : v 7 = (.pointer (some ⟨w.heap.size + 1, 3, none⟩)) := HD.out ⟨2, .data⟩ (by simp) rfl
      rw [e1] at q7
      obtain ⟨k0, k1, k2, k3, k4, k5, k6⟩ := HF.out.bb
      have hP := (⟨s4, n4, A4, m4, c4, rfl, R4.out.keep HF.out.below⟩ : IV wx (.agg #[.int .i64 s4, .bool n4, .slice A4 m4 c4]) q2)
      clear q5 q6 q8 q9 q10 q11 q12 q13 q14 q15 q16 q17 q18 q19 q20 q21 sl2 sl3 sl4 ho hi
      go_simp
      exact hK _ _ (Below.refl _ _) hP
    · obtain rfl := Option.some.inj ho
      have h0 : IV wx (v 6) p1 := HD.out ⟨1, .data⟩ (by simp) rfl
      have h1 : IV wx (v 8) q2 := HD.out ⟨3, .data⟩ (by simp) rfl
      clear q5 q7 q9 q10 q11 q12 q13 q14 q15 q16 q17 q18 q19 q20 q21 sl2 sl3 sl4 ho hi
      go_simp
      (with_reducible refine (HT1.out _ _ _ h0 h1).mono ?_)
      rintro e w2 ⟨u, rfl, hu, hB⟩
      exact hK _ _ hB hu
    · obtain rfl := Option.some.inj ho
      clear q5 q6 q7 q8 q9 q10 q11 q12 q13 q14 q15 q16 q17 q18 q19 q20 q21 sl2 sl4 ho hi
      go_simp
      exact hK _ _ (Below.refl _ _) rfl
    · obtain rfl := Option.some.inj ho
      have e1 : v 10 = (.pointer (some ⟨w.heap.size + 1, 0, none⟩)) := HD.out ⟨5, .data⟩ (by simp) rfl
      rw [e1] at q10
      obtain ⟨k0, k1, k2, k3, k4, k5, k6⟩ := HF.out.bb
      have hP := (⟨s3, n3, A3, m3, c3, rfl, R3.out.keep HF.out.below⟩ : IV wx (.agg #[.int .i64 s3, .bool n3, .slice A3 m3 c3]) p2)
      clear q5 q6 q7 q8 q9 q11 q12 q13 q14 q15 q16 q17 q18 q19 q20 q21 sl2 sl3 sl4 ho hi
      go_simp
      exact hK _ _ (Below.refl _ _) hP
    · obtain rfl := Option.some.inj ho
      clear q5 q6 q7 q8 q9 q10 q11 q12 q13 q14 q15 q16 q17 q18 q19 q20 q21 sl3 sl4 ho hi
      go_simp
      exact hK _ _ (Below.refl _ _) rfl
    · obtain rfl := Option.some.inj ho
      have e1 : v 12 = (.pointer (some ⟨w.heap.size, 3, none⟩)) := HD.out ⟨7, .data⟩ (by simp) rfl
      rw [e1] at q12
      obtain ⟨k0, k1, k2, k3, k4, k5, k6⟩ := HF.out.ba
      have hP := (⟨s2, n2, A2, m2, c2, rfl, R2.out.keep HF.out.below⟩ : IV wx (.agg #[.int .i64 s2, .bool n2, .slice A2 m2 c2]) q1)
      clear q5 q6 q7 q8 q9 q10 q11 q13 q14 q15 q16 q17 q18 q19 q20 q21 sl2 sl3 sl4 ho hi
      go_simp
      exact hK _ _ (Below.refl _ _) hP
    · obtain rfl := Option.some.inj ho
      have h0 : IV wx (v 11) p2 := HD.out ⟨6, .data⟩ (by simp) rfl
      have h1 : IV wx (v 13) q1 := HD.out ⟨8, .data⟩ (by simp) rfl
      clear q5 q6 q7 q8 q9 q10 q12 q14 q15 q16 q17 q18 q19 q20 q21 sl2 sl3 sl4 ho hi
      go_simp
      (with_reducible refine (HT2.out _ _ _ h0 h1).mono ?_)
      rintro e w2 ⟨u, rfl, hu, hB⟩
      exact hK _ _ hB hu
    · obtain rfl := Option.some.inj ho
      have h0 : IV wx (v 9) t1 := HD.out ⟨4, .data⟩ (by simp) rfl
      have h1 : IV wx (v 14) t2 := HD.out ⟨9, .data⟩ (by simp) rfl
      clear q5 q6 q7 q8 q10 q11 q12 q13 q15 q16 q17 q18 q19 q20 q21 sl2 sl3 sl4 ho hi
      go_simp
      (with_reducible refine (HP.out _ _ _ h0 h1).mono ?_)
      rintro e w2 ⟨u, rfl, hu, hB⟩
      exact hK _ _ hB hu
    · obtain rfl := Option.some.inj ho
      clear q5 q6 q7 q8 q9 q10 q11 q12 q13 q14 q15 q16 q17 q18 q19 q20 q21 sl3 sl4 ho hi
      go_simp
      exact hK _ _ (Below.refl _ _) rfl
    · obtain rfl := Option.some.inj ho
      have e1 : v 16 = (.pointer (some ⟨w.heap.size, 3, none⟩)) := HD.out ⟨11, .data⟩ (by simp) rfl
      rw [e1] at q16
      obtain ⟨k0, k1, k2, k3, k4, k5, k6⟩ := HF.out.ba
      have hP := (⟨s2, n2, A2, m2, c2, rfl, R2.out.keep HF.out.below⟩ : IV wx (.agg #[.int .i64 s2, .bool n2, .slice A2 m2 c2]) q1)
      clear q5 q6 q7 q8 q9 q10 q11 q12 q13 q14 q15 q17 q18 q19 q20 q21 sl2 sl3 sl4 ho hi
      go_simp
      exact hK _ _ (Below.refl _ _) hP
    · obtain rfl := Option.some.inj ho
      clear q5 q6 q7 q8 q9 q10 q11 q12 q13 q14 q15 q16 q17 q18 q19 q20 q21 sl2 sl4 ho hi
      go_simp
      exact hK _ _ (Below.refl _ _) rfl
    · obtain rfl := Option.some.inj ho
      have e1 : v 18 = (.pointer (some ⟨w.heap.size + 1, 3, none⟩)) := HD.out ⟨13, .data⟩ (by simp) rfl
      rw [e1] at q18
      obtain ⟨k0, k1, k2, k3, k4, k5, k6⟩ := HF.out.bb
      have hP := (⟨s4, n4, A4, m4, c4, rfl, R4.out.keep HF.out.below⟩ : IV wx (.agg #[.int .i64 s4, .bool n4, .slice A4 m4 c4]) q2)
      clear q5 q6 q7 q8 q9 q10 q11 q12 q13 q14 q15 q16 q17 q19 q20 q21 sl2 sl3 sl4 ho hi
      go_simp
      exact hK _ _ (Below.refl _ _) hP
    · obtain rfl := Option.some.inj ho
      have h0 : IV wx (v 17) q1 := HD.out ⟨12, .data⟩ (by simp) rfl
      have h1 : IV wx (v 19) q2 := HD.out ⟨14, .data⟩ (by simp) rfl
      clear q5 q6 q7 q8 q9 q10 q11 q12 q13 q14 q15 q16 q18 q20 q21 sl2 sl3 sl4 ho hi
      go_simp
      (with_reducible refine (HT3.out _ _ _ h0 h1).mono ?_)
      rintro e w2 ⟨u, rfl, hu, hB⟩
      exact hK _ _ hB hu
    · obtain rfl := Option.some.inj ho
      have h0 : IV wx (v 15) t3 := HD.out ⟨10, .data⟩ (by simp) rfl
      have h1 : IV wx (v 20) t4 := HD.out ⟨15, .data⟩ (by simp) rfl
      clear q5 q6 q7 q8 q9 q10 q11 q12 q13 q14 q16 q17 q18 q19 q21 sl2 sl3 sl4 ho hi
      go_simp
      (with_reducible refine (HMk.out _ _ _ h0 h1).mono ?_)
      rintro e w2 ⟨u, rfl, hu, hB⟩
      exact hK _ _ hB hu
  · intro v wx o T' K ho hF hall hin hout hK
    obtain rfl := Option.some.inj ho
    have sl4 : T'[4]? = some (.pointer (some ⟨w.heap.size + 1 + 1, 0, none⟩)) := (hout 4 (by decide)).trans rfl
    have q21 := hin 21 (by decide)
    have h0 : RFV wx (v 21) z := hall 16 (by decide)
    clear hin hout hall ho
    obtain ⟨s5, n5, A5, m5, c5, s6, n6, A6, m6, c6, e5, h5, h6⟩ := h0
    rw [e5] at q21
    have HR := Lib.hid (endR_store hF.below (show w.heap.size ≤ w.heap.size + 1 + 1 by omega) hF.wc h5 h6)
    obtain ⟨⟨o0, o1, o2, o3, o4, o5, p0, p1, p2, p3, p4, p5⟩, ⟨f0, f1, f2, f3, f4, f5⟩, -⟩ := hF.wc
    clear e5 h5 h6 hF
    go_simp
    exact hK _ HR.out
  · intro v wx hE
    obtain ⟨s5, n5, A5, m5, c5, s6, n6, A6, m6, c6, ⟨k0, k1, k2, k3, k4, k5, -⟩, h5, h6, hB⟩ := hE
    have H5 := Lib.hid h5
    have H6 := Lib.hid h6
    have HB := Lib.hid hB
    clear h5 h6 hB
    simp only [over, List.setIfInBounds_toArray, List.set_cons_zero, List.set_cons_succ]
    generalize v 5 = v5
    generalize v 6 = v6
    generalize v 7 = v7
    generalize v 8 = v8
    generalize v 9 = v9
    generalize v 10 = v10
    generalize v 11 = v11
    generalize v 12 = v12
    generalize v 13 = v13
    generalize v 14 = v14
    generalize v 15 = v15
    generalize v 16 = v16
    generalize v 17 = v17
    generalize v 18 = v18
    generalize v 19 = v19
    generalize v 20 = v20
    generalize v 21 = v21
    go_wp2_with fail
    exact bodyPost_ret (v := .agg #[.int .i64 s5, .bool n5, .slice A5 m5 c5, .int .i64 s6, .bool n6, .slice A6 m6 c6]) (by simp [results, Try.results51, go_sem, *]) rfl ⟨_, rfl, ⟨s5, n5, A5, m5, c5, s6, n6, A6, m6, c6, rfl, H5.out, H6.out⟩, HB.out⟩

end Go.Proofs.Ytfhmhkbjcccejaa

namespace Go.Proofs.Ytfhmhkbjcccejaa
open Go.RowKit

theorem rat_neg_num (x : Rat) : (-x).num = -x.num := rfl
theorem rat_neg_den (x : Rat) : (-x).den = x.den := rfl

set_option maxRecDepth 100000 in
set_option maxHeartbeats 20000000 in
theorem rv_minus (K : Nat) {u : Value} {x : Rat} {w : World} (h : RFV w u x) (hK : K ≤ 250000) (hx : x.num.natAbs < Bs ^ K) : Calls Try.prog 45 #[u] w (RetV (.rat (-x)) w) := by
  obtain ⟨s1, n1, A1, m1, c1, s2, n2, A2, m2, c2, rfl, r1, r2⟩ := h
  have R1 := Lib.hid r1
  have R2 := Lib.hid r2
  clear r1 r2
  have HM : Hid (∀ wx u, IV wx u x.num → Calls Try.prog 60 #[u] wx (RetV (.int (-x.num)) wx)) := fun wx u k1 => iv_minus K k1 hK hx
  have HE1 : Hid ((-x).num = -x.num) := rat_neg_num x
  have HE2 : Hid ((-x).den = x.den) := rat_neg_den x
  clear hK hx
  generalize -x = z at HE1 HE2 ⊢
  generalize -x.num = t at HM HE1
  have R2' : Hid (RI w s2 n2 A2 m2 c2 (z.den : Int)) := by
    show RI w s2 n2 A2 m2 c2 (z.den : Int)
    rw [HE2.out]
    exact R2.out
  clear R2 HE2
  have R2 := R2'
  clear R2'
  generalize x.num = p1 at R1 HM
  generalize hq : (z.den : Int) = q1 at R2
  have HQ := Lib.hid hq
  clear hq
  go_enter Try.func45, Try.ntmps45
  go_upto_region 1 with fail
  generalize hX : (w.alloc _).alloc _ = X
  have HX : Hid (F1 w (.int .i64 s1) (.bool n1) (.slice A1 m1 c1) (.int .i64 s2) (.bool n2) (.slice A2 m2 c2) X) := by
    subst hX
    exact F1.new w _ _ _ _ _ _ _ _ _ _ _ _
  clear hX
  refine wp_region_flow_store 6 [3, 4, 5, 6, 7, 8] (fun i => 3 + i) (F1 w (.int .i64 s1) (.bool n1) (.slice A1 m1 c1) (.int .i64 s2) (.bool n2) (.slice A2 m2 c2)) (EndR w (w.heap.size + 1) z) (Spl [.val (.pointer (some ⟨w.heap.size, 0, none⟩)), .int p1, .int t, .val (.pointer (some ⟨w.heap.size, 3, none⟩)), .int q1, .rat z]) (by kernel_rfl) (by kernel_rfl) (by kernel_rfl) (by kernel_rfl) (by kernel_rfl) (fun i j _ _ h => Nat.add_left_cancel (show 3 + i = 3 + j from h)) (by decide) F1.keep Spl.keep ?_ ?_ ?_ ?_
  · exact HX.out.keep _ _ (Below.drew (Below.refl _ _))
  · intro i v wx o T' K hi ho hF hdep hin hout hK
    have q3 := hin 3 (by decide)
    have q4 := hin 4 (by decide)
    have q5 := hin 5 (by decide)
    have q6 := hin 6 (by decide)
    have q7 := hin 7 (by decide)
    have q8 := hin 8 (by decide)
    have sl1 : T'[1]? = some (.pointer (some ⟨w.heap.size, 0, none⟩)) := (hout 1 (by decide)).trans rfl
    have sl2 : T'[2]? = some (.pointer (some ⟨w.heap.size + 1, 0, none⟩)) := (hout 2 (by decide)).trans rfl
    clear hin hout
    have HF := Lib.hid hF
    have HD := Lib.hid hdep
    clear hF hdep
    rcases (by omega : i = 0 ∨ i = 1 ∨ i = 2 ∨ i = 3 ∨ i = 4 ∨ i = 5) with rfl | rfl | rfl | rfl | rfl | rfl
    · obtain rfl := Option.some.inj ho
      clear q3 q4 q5 q6 q7 q8 sl2 ho hi
      go_simp
      exact hK _ _ (Below.refl _ _) rfl
    · obtain rfl := Option.some.inj ho
      have e1 : v 3 = (.pointer (some ⟨w.heap.size, 0, none⟩)) := HD.out ⟨0, .data⟩ (by simp) rfl
      rw [e1] at q3
      obtain ⟨k0, k1, k2, k3, k4, k5, k6⟩ := HF.out.ba
      have hP := (⟨s1, n1, A1, m1, c1, rfl, R1.out.keep HF.out.below⟩ : IV wx (.agg #[.int .i64 s1, .bool n1, .slice A1 m1 c1]) p1)
      clear q4 q5 q6 q7 q8 sl1 sl2 ho hi
      go_simp
      exact hK _ _ (Below.refl _ _) hP
    · obtain rfl := Option.some.inj ho
      have h0 : IV wx (v 4) p1 := HD.out ⟨1, .data⟩ (by simp) rfl
      clear q3 q5 q6 q7 q8 sl1 sl2 ho hi
      go_simp
      (with_reducible refine (HM.out _ _ h0).mono ?_)
      rintro e w2 ⟨u, rfl, hu, hB⟩
      exact hK _ _ hB hu
    · obtain rfl := Option.some.inj ho
      clear q3 q4 q5 q6 q7 q8 sl2 ho hi
      go_simp
      exact hK _ _ (Below.refl _ _) rfl
    · obtain rfl := Option.some.inj ho
      have e1 : v 6 = (.pointer (some ⟨w.heap.size, 3, none⟩)) := HD.out ⟨3, .data⟩ (by simp) rfl
      rw [e1] at q6
      obtain ⟨k0, k1, k2, k3, k4, k5, k6⟩ := HF.out.ba
      have hP := (⟨s2, n2, A2, m2, c2, rfl, R2.out.keep HF.out.below⟩ : IV wx (.agg #[.int .i64 s2, .bool n2, .slice A2 m2 c2]) q1)
      clear q3 q4 q5 q7 q8 sl1 sl2 ho hi
      go_simp
      exact hK _ _ (Below.refl _ _) hP
    · obtain rfl := Option.some.inj ho
      have e0 : IV wx (v 5) t := HD.out ⟨2, .data⟩ (by simp) rfl
      have e1 : IV wx (v 7) q1 := HD.out ⟨4, .data⟩ (by simp) rfl
      obtain ⟨s5, n5, A5, m5, c5, g0, h5⟩ := e0
      obtain ⟨s6, n6, A6, m6, c6, g1, h6⟩ := e1
      rw [g0] at q5
      rw [g1] at q7
      rw [← HE1.out] at h5
      rw [← HQ.out] at h6
      have HW := Lib.hid (show RFV wx (.agg #[.int .i64 s5, .bool n5, .slice A5 m5 c5, .int .i64 s6, .bool n6, .slice A6 m6 c6]) z from ⟨s5, n5, A5, m5, c5, s6, n6, A6, m6, c6, rfl, h5, h6⟩)
      clear g0 g1 h5 h6
      clear q3 q4 q6 q8 sl1 sl2 ho hi
      go_simp
      exact hK _ _ (Below.refl _ _) HW.out
  · intro v wx o T' K ho hF hall hin hout hK
    obtain rfl := Option.some.inj ho
    have sl2 : T'[2]? = some (.pointer (some ⟨w.heap.size + 1, 0, none⟩)) := (hout 2 (by decide)).trans rfl
    have q8 := hin 8 (by decide)
    have h0 : RFV wx (v 8) z := hall 5 (by decide)
    clear hin hout hall ho
    obtain ⟨s5, n5, A5, m5, c5, s6, n6, A6, m6, c6, e5, h5, h6⟩ := h0
    rw [e5] at q8
    have HR := Lib.hid (endR_store hF.below (show w.heap.size ≤ w.heap.size + 1 by omega) hF.wc h5 h6)
    obtain ⟨⟨o0, o1, o2, o3, o4, o5, p0, p1, p2, p3, p4, p5⟩, ⟨f0, f1, f2, f3, f4, f5⟩, -⟩ := hF.wc
    clear e5 h5 h6 hF
    go_simp
    exact hK _ HR.out
  · intro v wx hE
    obtain ⟨s5, n5, A5, m5, c5, s6, n6, A6, m6, c6, ⟨k0, k1, k2, k3, k4, k5, -⟩, h5, h6, hB⟩ := hE
    have H5 := Lib.hid h5
    have H6 := Lib.hid h6
    have HB := Lib.hid hB
    clear h5 h6 hB
    simp only [over, List.setIfInBounds_toArray, List.set_cons_zero, List.set_cons_succ]
    generalize v 3 = v3
    generalize v 4 = v4
    generalize v 5 = v5
    generalize v 6 = v6
    generalize v 7 = v7
    generalize v 8 = v8
    go_wp2_with fail
    exact bodyPost_ret (v := .agg #[.int .i64 s5, .bool n5, .slice A5 m5 c5, .int .i64 s6, .bool n6, .slice A6 m6 c6]) (by simp [results, Try.results45, go_sem, *]) rfl ⟨_, rfl, ⟨s5, n5, A5, m5, c5, s6, n6, A6, m6, c6, rfl, H5.out, H6.out⟩, HB.out⟩

set_option maxRecDepth 100000 in
set_option maxHeartbeats 20000000 in
theorem rv_less (K : Nat) {u u' : Value} {x y : Rat} {w : World} (h : RFV w u x) (h' : RFV w u' y) (hK : 2 * K + 1 ≤ 250000) (hx : x.num.natAbs < Bs ^ K ∧ x.den < Bs ^ K) (hy : y.num.natAbs < Bs ^ K ∧ y.den < Bs ^ K) : Calls Try.prog 48 #[u, u'] w (RetV (.rat (x - y)) w) := by
  obtain ⟨s1, n1, A1, m1, c1, s2, n2, A2, m2, c2, rfl, r1, r2⟩ := h
  have R1 := Lib.hid r1
  have R2 := Lib.hid r2
  obtain ⟨s3, n3, A3, m3, c3, s4, n4, A4, m4, c4, rfl, r3, r4⟩ := h'
  have R3 := Lib.hid r3
  have R4 := Lib.hid r4
  clear r3 r4
  clear r1 r2
  have HM : Hid (∀ wx u, RFV wx u y → Calls Try.prog 45 #[u] wx (RetV (.rat (-y)) wx)) := fun wx u k1 => rv_minus K k1 (by omega) hy.1
  have HP : Hid (∀ wx u u', RFV wx u x → RFV wx u' (-y) → Calls Try.prog 51 #[u, u'] wx (RetV (.rat (x - y)) wx)) := fun wx u u' k1 k2 => by
    rw [Rat.sub_eq_add_neg]
    exact rv_plus K k1 k2 hK hx (by rw [rat_neg_num, rat_neg_den, Int.natAbs_neg]; exact hy)
  clear hK hx hy
  generalize x - y = z at HP ⊢
  generalize -y = y2 at HM HP
  go_enter Try.func48, Try.ntmps48
  go_upto_region 1 with fail
  generalize hX : ((w.alloc _).alloc _).alloc _ = X
  have HX : Hid (F2 w (.int .i64 s1) (.bool n1) (.slice A1 m1 c1) (.int .i64 s2) (.bool n2) (.slice A2 m2 c2) (.int .i64 s3) (.bool n3) (.slice A3 m3 c3) (.int .i64 s4) (.bool n4) (.slice A4 m4 c4) X) := by
    subst hX
    exact F2.new w _ _ _ _ _ _ _ _ _ _ _ _ _ _ _ _ _ _
  clear hX
  refine wp_region_flow_store 4 [5, 6, 7, 8] (fun i => 5 + i) (F2 w (.int .i64 s1) (.bool n1) (.slice A1 m1 c1) (.int .i64 s2) (.bool n2) (.slice A2 m2 c2) (.int .i64 s3) (.bool n3) (.slice A3 m3 c3) (.int .i64 s4) (.bool n4) (.slice A4 m4 c4)) (EndR w (w.heap.size + 1 + 1) z) (Spl [.rat x, .rat y, .rat y2, .rat z]) (by kernel_rfl) (by kernel_rfl) (by kernel_rfl) (by kernel_rfl) (by kernel_rfl) (fun i j _ _ h => Nat.add_left_cancel (show 5 + i = 5 + j from h)) (by decide) F2.keep Spl.keep ?_ ?_ ?_ ?_
  · exact HX.out.keep _ _ (Below.drew (Below.refl _ _))
  · intro i v wx o T' K hi ho hF hdep hin hout hK
    have q5 := hin 5 (by decide)
    have q6 := hin 6 (by decide)
    have q7 := hin 7 (by decide)
    have q8 := hin 8 (by decide)
    have sl2 : T'[2]? = some (.pointer (some ⟨w.heap.size, 0, none⟩)) := (hout 2 (by decide)).trans rfl
    have sl3 : T'[3]? = some (.pointer (some ⟨w.heap.size + 1, 0, none⟩)) := (hout 3 (by decide)).trans rfl
    have sl4 : T'[4]? = some (.pointer (some ⟨w.heap.size + 1 + 1, 0, none⟩)) := (hout 4 (by decide)).trans rfl
    clear hin hout
    have HF := Lib.hid hF
    have HD := Lib.hid hdep
    clear hF hdep
    rcases (by omega : i = 0 ∨ i = 1 ∨ i = 2 ∨ i = 3) with rfl | rfl | rfl | rfl
    · obtain rfl := Option.some.inj ho
      obtain ⟨k0, k1, k2, k3, k4, k5, k6⟩ := HF.out.ba
      have hP := (⟨s1, n1, A1, m1, c1, s2, n2, A2, m2, c2, rfl, R1.out.keep HF.out.below, R2.out.keep HF.out.below⟩ : RFV wx (.agg #[.int .i64 s1, .bool n1, .slice A1 m1 c1, .int .i64 s2, .bool n2, .slice A2 m2 c2]) x)
      clear q5 q6 q7 q8 sl3 sl4 ho hi
      go_simp
      exact hK _ _ (Below.refl _ _) hP
    · obtain rfl := Option.some.inj ho
      obtain ⟨k0, k1, k2, k3, k4, k5, k6⟩ := HF.out.bb
      have hP := (⟨s3, n3, A3, m3, c3, s4, n4, A4, m4, c4, rfl, R3.out.keep HF.out.below, R4.out.keep HF.out.below⟩ : RFV wx (.agg #[.int .i64 s3, .bool n3, .slice A3 m3 c3, .int .i64 s4, .bool n4, .slice A4 m4 c4]) y)
      clear q5 q6 q7 q8 sl2 sl4 ho hi
      go_simp
      exact hK _ _ (Below.refl _ _) hP
    · obtain rfl := Option.some.inj ho
      have h0 : RFV wx (v 6) y := HD.out ⟨1, .data⟩ (by simp) rfl
      clear q5 q7 q8 sl2 sl3 sl4 ho hi
      go_simp
      (with_reducible refine (HM.out _ _ h0).mono ?_)
      rintro e w2 ⟨u, rfl, hu, hB⟩
      exact hK _ _ hB hu
    · obtain rfl := Option.some.inj ho
      have h0 : RFV wx (v 5) x := HD.out ⟨0, .data⟩ (by simp) rfl
      have h1 : RFV wx (v 7) y2 := HD.out ⟨2, .data⟩ (by simp) rfl
      clear q6 q8 sl2 sl3 sl4 ho hi
      go_simp
      (with_reducible refine (HP.out _ _ _ h0 h1).mono ?_)
      rintro e w2 ⟨u, rfl, hu, hB⟩
      exact hK _ _ hB hu
  · intro v wx o T' K ho hF hall hin hout hK
    obtain rfl := Option.some.inj ho
    have sl4 : T'[4]? = some (.pointer (some ⟨w.heap.size + 1 + 1, 0, none⟩)) := (hout 4 (by decide)).trans rfl
    have q8 := hin 8 (by decide)
    have h0 : RFV wx (v 8) z := hall 3 (by decide)
    clear hin hout hall ho
    obtain ⟨s5, n5, A5, m5, c5, s6, n6, A6, m6, c6, e5, h5, h6⟩ := h0
    rw [e5] at q8
    have HR := Lib.hid (endR_store hF.below (show w.heap.size ≤ w.heap.size + 1 + 1 by omega) hF.wc h5 h6)
    obtain ⟨⟨o0, o1, o2, o3, o4, o5, p0, p1, p2, p3, p4, p5⟩, ⟨f0, f1, f2, f3, f4, f5⟩, -⟩ := hF.wc
    clear e5 h5 h6 hF
    go_simp
    exact hK _ HR.out
  · intro v wx hE
    obtain ⟨s5, n5, A5, m5, c5, s6, n6, A6, m6, c6, ⟨k0, k1, k2, k3, k4, k5, -⟩, h5, h6, hB⟩ := hE
    have H5 := Lib.hid h5
    have H6 := Lib.hid h6
    have HB := Lib.hid hB
    clear h5 h6 hB
    simp only [over, List.setIfInBounds_toArray, List.set_cons_zero, List.set_cons_succ]
    generalize v 5 = v5
    generalize v 6 = v6
    generalize v 7 = v7
    generalize v 8 = v8
    go_wp2_with fail
    exact bodyPost_ret (v := .agg #[.int .i64 s5, .bool n5, .slice A5 m5 c5, .int .i64 s6, .bool n6, .slice A6 m6 c6]) (by simp [results, Try.results48, go_sem, *]) rfl ⟨_, rfl, ⟨s5, n5, A5, m5, c5, s6, n6, A6, m6, c6, rfl, H5.out, H6.out⟩, HB.out⟩

set_option maxRecDepth 100000 in
set_option maxHeartbeats 20000000 in
theorem rv_sign (K : Nat) {u : Value} {x : Rat} {w : World} (h : RFV w u x) (hK : K ≤ 250000) (hx : x.num.natAbs < Bs ^ K) : Calls Try.prog 49 #[u] w (RetV (.val (.int .i64 (sgnI x.num))) w) := by
  obtain ⟨s1, n1, A1, m1, c1, s2, n2, A2, m2, c2, rfl, r1, r2⟩ := h
  have HS : Hid (∀ wx, Below w.heap.size w wx → Calls Try.prog 59 #[.agg #[.int .i64 s1, .bool n1, .slice A1 m1 c1]] wx (RetV (.val (.int .i64 (sgnI x.num))) wx)) := fun wx hb => iv_sign K ⟨s1, n1, A1, m1, c1, rfl, r1.keep hb⟩ hK hx
  clear r1 r2 hK hx
  generalize sgnI x.num = t at HS ⊢
  go_enter Try.func49, Try.ntmps49
  go_upto_region 1 with fail
  generalize hX : w.alloc _ = X
  have HX : Hid (Below w.heap.size w X) := by
    subst hX
    exact below_alloc _ _
  obtain ⟨k0, k1, k2⟩ : X.cell? ⟨w.heap.size, 0, none⟩ = some (.int .i64 s1) ∧ X.cell? ⟨w.heap.size, 1, none⟩ = some (.bool n1) ∧ X.cell? ⟨w.heap.size, 2, none⟩ = some (.slice A1 m1 c1) := by
    subst hX
    simp [go_sem]
  clear hX
  go_wp2_with fail
  (with_reducible refine (HS.out _ HX.out).mono ?_)
  rintro e w1 ⟨u, rfl, rfl, hB⟩
  have HB := Lib.hid (HX.out.trans (hB.mono HX.out.size))
  clear k0 k1 k2 hB
  go_wp2_with fail
  go_ret
  exact ⟨_, rfl, rfl, HB.out⟩

set_option maxRecDepth 100000 in
set_option maxHeartbeats 20000000 in
theorem rv_compare (K : Nat) {u u' : Value} {x y : Rat} {w : World} (h : RFV w u x) (h' : RFV w u' y) (hK : 2 * K + 1 ≤ 250000) (hx : x.num.natAbs < Bs ^ K ∧ x.den < Bs ^ K) (hy : y.num.natAbs < Bs ^ K ∧ y.den < Bs ^ K) : Calls Try.prog 19 #[u, u'] w (RetV (.val (.int .i64 (sgnI (x - y).num))) w) := by
  have HL : Hid (∀ wx, Below w.heap.size w wx → Calls Try.prog 48 #[u, u'] wx (RetV (.rat (x - y)) wx)) := fun wx hb => rv_less K (h.keep hb) (h'.keep hb) hK hx hy
  have hb : (x - y).num.natAbs < Bs ^ (2 * K + 1) := by
    have := (add_size (x := x) (y := -y) hx (by rw [rat_neg_num, rat_neg_den, Int.natAbs_neg]; exact hy)).1
    rw [← Rat.sub_eq_add_neg] at this
    exact this
  have HS : Hid (∀ wx u, RFV wx u (x - y) → Calls Try.prog 49 #[u] wx (RetV (.val (.int .i64 (sgnI (x - y).num))) wx)) := fun wx u k => rv_sign (2 * K + 1) k hK hb
  clear hb hK hx hy
  generalize sgnI (x - y).num = t at HS ⊢
  generalize x - y = z at HL HS
  obtain ⟨s1, n1, A1, m1, c1, s2, n2, A2, m2, c2, rfl, r1, r2⟩ := h
  obtain ⟨s3, n3, A3, m3, c3, s4, n4, A4, m4, c4, rfl, r3, r4⟩ := h'
  clear r1 r2 r3 r4
  go_enter Try.func19, Try.ntmps19
  go_upto_region 1 with fail
  generalize hX : (w.alloc _).alloc _ = X
  have HX : Hid (Below w.heap.size w X) := by
    subst hX
    exact below_two w _ _
  obtain ⟨⟨k0, k1, k2, k3, k4, k5⟩, j0, j1, j2, j3, j4, j5⟩ : (X.cell? ⟨w.heap.size, 0, none⟩ = some (.int .i64 s1) ∧ X.cell? ⟨w.heap.size, 1, none⟩ = some (.bool n1) ∧ X.cell? ⟨w.heap.size, 2, none⟩ = some (.slice A1 m1 c1) ∧ X.cell? ⟨w.heap.size, 3, none⟩ = some (.int .i64 s2) ∧ X.cell? ⟨w.heap.size, 4, none⟩ = some (.bool n2) ∧ X.cell? ⟨w.heap.size, 5, none⟩ = some (.slice A2 m2 c2)) ∧
      X.cell? ⟨w.heap.size + 1, 0, none⟩ = some (.int .i64 s3) ∧ X.cell? ⟨w.heap.size + 1, 1, none⟩ = some (.bool n3) ∧ X.cell? ⟨w.heap.size + 1, 2, none⟩ = some (.slice A3 m3 c3) ∧ X.cell? ⟨w.heap.size + 1, 3, none⟩ = some (.int .i64 s4) ∧ X.cell? ⟨w.heap.size + 1, 4, none⟩ = some (.bool n4) ∧ X.cell? ⟨w.heap.size + 1, 5, none⟩ = some (.slice A4 m4 c4) := by
    subst hX
    simp [go_sem]
  clear hX
  go_wp2_with fail
  (with_reducible refine (HL.out _ HX.out).mono ?_)
  rintro e w1 ⟨u, rfl, hu, hB⟩
  have HB := Lib.hid (HX.out.trans (hB.mono HX.out.size))
  have HU : Hid (RFV w1 u z) := hu
  clear k0 k1 k2 k3 k4 k5 j0 j1 j2 j3 j4 j5 hB hu
  go_wp2_with fail
  (with_reducible refine (HS.out _ _ HU.out).mono ?_)
  rintro e w2 ⟨u, rfl, rfl, hB2⟩
  have HB2 := Lib.hid (HB.out.trans (hB2.mono HB.out.size))
  clear hB2
  go_wp2_with fail
  go_ret
  exact ⟨_, rfl, rfl, HB2.out⟩

/-- A box of two cells. -/
def B2n (g : Nat) (a b : Value) (w : World) : Prop := w.cell? ⟨g, 0, none⟩ = some a ∧ w.cell? ⟨g, 1, none⟩ = some b ∧ g < w.heap.size
theorem B2n.keep {g : Nat} {a b : Value} {w w' : World} (h : B2n g a b w) (hb : Below w.heap.size w w') : B2n g a b w' := by
  obtain ⟨h0, h1, hz⟩ := h
  exact ⟨(hb.cell (p := ⟨g, 0, none⟩) hz).trans h0, (hb.cell (p := ⟨g, 1, none⟩) hz).trans h1, Nat.lt_of_lt_of_le hz hb.size⟩
/-- The box of one number, and one for a fraction. -/
structure FN2 (w : World) (a b : Value) (wx : World) : Prop where
  below : Below w.heap.size w wx
  ba : B2n w.heap.size a b wx
  wc : W6 (w.heap.size + 1) wx
theorem FN2.keep {w : World} {a b : Value} (wx wy : World) (h : FN2 w a b wx) (hb : Below wx.heap.size wx wy) : FN2 w a b wy :=
  ⟨h.below.trans (hb.mono h.below.size), h.ba.keep hb, h.wc.keep hb⟩
theorem FN2.new (w : World) (a b p q r p' q' r' : Value) : FN2 w a b ((w.alloc (.cells #[a, b] 23)).alloc (.cells #[p, q, r, p', q', r'] 38)) := by
  refine ⟨((Below.refl _ _).alloc (Nat.le_refl _) _).alloc (by simp) _, ?_, W6.new _ _ _ _ _ _ _ (by simp)⟩
  simp [B2n, go_sem]

set_option maxRecDepth 100000 in
set_option maxHeartbeats 20000000 in
theorem rv_to (x : Rat) (w : World) (hp : x.num.natAbs ≤ 1152921504606846976) (hq : x.den ≤ 1152921504606846976) : Calls Try.prog 18 #[.agg #[.int .i64 x.num, .int .i64 (x.den : Int)]] w (RetV (.rat x) w) := by
  have HO1 : Hid (∀ wx, Calls Try.prog 29 #[.int .i64 x.num] wx (RetV (.int x.num) wx)) := fun wx => iv_of _ wx (by omega) (by omega)
  have HO2 : Hid (∀ wx, Calls Try.prog 29 #[.int .i64 (x.den : Int)] wx (RetV (.int (x.den : Int)) wx)) := fun wx => iv_of _ wx (by omega) (by omega)
  clear hp hq
  generalize hp : x.num = p1 at HO1 ⊢
  generalize hq : (x.den : Int) = q1 at HO2 ⊢
  have HE1 := Lib.hid hp
  have HQ := Lib.hid hq
  clear hp hq
  go_enter Try.func18, Try.ntmps18
  go_upto_region 1 with fail
  generalize hX : (w.alloc _).alloc _ = X
  have HX : Hid (FN2 w (.int .i64 p1) (.int .i64 q1) X) := by
    subst hX
    exact FN2.new w _ _ _ _ _ _ _ _
  clear hX
  refine wp_region_flow_store 7 [3, 4, 5, 6, 7, 8, 9] (fun i => 3 + i) (FN2 w (.int .i64 p1) (.int .i64 q1)) (EndR w (w.heap.size + 1) x) (Spl [.val (.pointer (some ⟨w.heap.size, 0, none⟩)), .val (.int .i64 p1), .int p1, .val (.pointer (some ⟨w.heap.size, 1, none⟩)), .val (.int .i64 q1), .int q1, .rat x]) (by kernel_rfl) (by kernel_rfl) (by kernel_rfl) (by kernel_rfl) (by kernel_rfl) (fun i j _ _ h => Nat.add_left_cancel (show 3 + i = 3 + j from h)) (by decide) FN2.keep Spl.keep ?_ ?_ ?_ ?_
  · exact HX.out.keep _ _ (Below.drew (Below.refl _ _))
  · intro i v wx o T' K hi ho hF hdep hin hout hK
    have q3 := hin 3 (by decide)
    have q4 := hin 4 (by decide)
    have q5 := hin 5 (by decide)
    have q6 := hin 6 (by decide)
    have q7 := hin 7 (by decide)
    have q8 := hin 8 (by decide)
    have q9 := hin 9 (by decide)
    have sl1 : T'[1]? = some (.pointer (some ⟨w.heap.size, 0, none⟩)) := (hout 1 (by decide)).trans rfl
    have sl2 : T'[2]? = some (.pointer (some ⟨w.heap.size + 1, 0, none⟩)) := (hout 2 (by decide)).trans rfl
    clear hin hout
    have HF := Lib.hid hF
    have HD := Lib.hid hdep
    clear hF hdep
    rcases (by omega : i = 0 ∨ i = 1 ∨ i = 2 ∨ i = 3 ∨ i = 4 ∨ i = 5 ∨ i = 6) with rfl | rfl | rfl | rfl | rfl | rfl | rfl
    · obtain rfl := Option.some.inj ho
      clear q3 q4 q5 q6 q7 q8 q9 sl2 ho hi
      go_simp
      exact hK _ _ (Below.refl _ _) rfl
    · obtain rfl := Option.some.inj ho
      have e1 : v 3 = (.pointer (some ⟨w.heap.size, 0, none⟩)) := HD.out ⟨0, .data⟩ (by simp) rfl
      rw [e1] at q3
      obtain ⟨k0, k1, k2⟩ := HF.out.ba
      have hP := (rfl : Value.int .i64 p1 = .int .i64 p1)
      clear q4 q5 q6 q7 q8 q9 sl1 sl2 ho hi
      go_simp
      exact hK _ _ (Below.refl _ _) hP
    · obtain rfl := Option.some.inj ho
      have e0 : v 4 = (.int .i64 p1) := HD.out ⟨1, .data⟩ (by simp) rfl
      rw [e0] at q4
      clear q3 q5 q6 q7 q8 q9 sl1 sl2 ho hi
      go_simp
      (with_reducible refine (HO1.out _).mono ?_)
      rintro e w2 ⟨u, rfl, hu, hB⟩
      exact hK _ _ hB hu
    · obtain rfl := Option.some.inj ho
      clear q3 q4 q5 q6 q7 q8 q9 sl2 ho hi
      go_simp
      exact hK _ _ (Below.refl _ _) rfl
    · obtain rfl := Option.some.inj ho
      have e1 : v 6 = (.pointer (some ⟨w.heap.size, 1, none⟩)) := HD.out ⟨3, .data⟩ (by simp) rfl
      rw [e1] at q6
      obtain ⟨k0, k1, k2⟩ := HF.out.ba
      have hP := (rfl : Value.int .i64 q1 = .int .i64 q1)
      clear q3 q4 q5 q7 q8 q9 sl1 sl2 ho hi
      go_simp
      exact hK _ _ (Below.refl _ _) hP
    · obtain rfl := Option.some.inj ho
      have e0 : v 7 = (.int .i64 q1) := HD.out ⟨4, .data⟩ (by simp) rfl
      rw [e0] at q7
      clear q3 q4 q5 q6 q8 q9 sl1 sl2 ho hi
      go_simp
      (with_reducible refine (HO2.out _).mono ?_)
      rintro e w2 ⟨u, rfl, hu, hB⟩
      exact hK _ _ hB hu
    · obtain rfl := Option.some.inj ho
      have e0 : IV wx (v 5) p1 := HD.out ⟨2, .data⟩ (by simp) rfl
      have e1 : IV wx (v 8) q1 := HD.out ⟨5, .data⟩ (by simp) rfl
      obtain ⟨s5, n5, A5, m5, c5, g0, h5⟩ := e0
      obtain ⟨s6, n6, A6, m6, c6, g1, h6⟩ := e1
      rw [g0] at q5
      rw [g1] at q8
      rw [← HE1.out] at h5
      rw [← HQ.out] at h6
      have HW := Lib.hid (show RFV wx (.agg #[.int .i64 s5, .bool n5, .slice A5 m5 c5, .int .i64 s6, .bool n6, .slice A6 m6 c6]) x from ⟨s5, n5, A5, m5, c5, s6, n6, A6, m6, c6, rfl, h5, h6⟩)
      clear g0 g1 h5 h6
      clear q3 q4 q6 q7 q9 sl1 sl2 ho hi
      go_simp
      exact hK _ _ (Below.refl _ _) HW.out
  · intro v wx o T' K ho hF hall hin hout hK
    obtain rfl := Option.some.inj ho
    have sl2 : T'[2]? = some (.pointer (some ⟨w.heap.size + 1, 0, none⟩)) := (hout 2 (by decide)).trans rfl
    have q9 := hin 9 (by decide)
    have h0 : RFV wx (v 9) x := hall 6 (by decide)
    clear hin hout hall ho
    obtain ⟨s5, n5, A5, m5, c5, s6, n6, A6, m6, c6, e5, h5, h6⟩ := h0
    rw [e5] at q9
    have HR := Lib.hid (endR_store hF.below (show w.heap.size ≤ w.heap.size + 1 by omega) hF.wc h5 h6)
    obtain ⟨⟨o0, o1, o2, o3, o4, o5, p0, p1, p2, p3, p4, p5⟩, ⟨f0, f1, f2, f3, f4, f5⟩, -⟩ := hF.wc
    clear e5 h5 h6 hF
    go_simp
    exact hK _ HR.out
  · intro v wx hE
    obtain ⟨s5, n5, A5, m5, c5, s6, n6, A6, m6, c6, ⟨k0, k1, k2, k3, k4, k5, -⟩, h5, h6, hB⟩ := hE
    have H5 := Lib.hid h5
    have H6 := Lib.hid h6
    have HB := Lib.hid hB
    clear h5 h6 hB
    simp only [over, List.setIfInBounds_toArray, List.set_cons_zero, List.set_cons_succ]
    generalize v 3 = v3
    generalize v 4 = v4
    generalize v 5 = v5
    generalize v 6 = v6
    generalize v 7 = v7
    generalize v 8 = v8
    generalize v 9 = v9
    go_wp2_with fail
    exact bodyPost_ret (v := .agg #[.int .i64 s5, .bool n5, .slice A5 m5 c5, .int .i64 s6, .bool n6, .slice A6 m6 c6]) (by simp [results, Try.results18, go_sem, *]) rfl ⟨_, rfl, ⟨s5, n5, A5, m5, c5, s6, n6, A6, m6, c6, rfl, H5.out, H6.out⟩, HB.out⟩

end Go.Proofs.Ytfhmhkbjcccejaa

namespace Go.Proofs.Ytfhmhkbjcccejaa
open Go.RowKit

set_option maxRecDepth 100000 in
set_option maxHeartbeats 20000000 in
theorem rv_num (K : Nat) {u : Value} {x : Rat} {w : World} (h : RFV w u x) (hK : K ≤ 250000) (hx : x.num.natAbs < Bs ^ K ∧ x.den < Bs ^ K) : Calls Try.prog 27 #[u] w fun e w' => e = .returned (outN x) ∧ Below w.heap.size w w' := by
  obtain ⟨s1, n1, A1, m1, c1, s2, n2, A2, m2, c2, rfl, r1, r2⟩ := h
  have l1 := r1.len hx.1
  have l2 := r2.len (den_bound x hx.2)
  have HF : Hid (∀ wx, Below w.heap.size w wx → Calls Try.prog 58 #[.agg #[.int .i64 s1, .bool n1, .slice A1 m1 c1, .int .i64 s2, .bool n2, .slice A2 m2 c2]] wx fun e w' => e = .returned (fromV x.num (x.den : Int)) ∧ Below wx.heap.size wx w') := fun wx hb =>
    rfrom_any _ _ _ _ _ _ _ _ _ _ _ _ wx (r1.keep hb) (r2.keep hb) (by omega) (by omega)
  clear r1 r2 l1 l2 hx hK
  have hcase : (fromV x.num (x.den : Int) = .tuple #[.agg #[.int .i64 x.num, .int .i64 (x.den : Int)], .bool true] ∧ outN x = .tuple #[.agg #[.int .i64 x.num, .int .i64 (x.den : Int)], .int .i64 0]) ∨
      (fromV x.num (x.den : Int) = .tuple #[.agg #[.int .i64 0, .int .i64 0], .bool false] ∧ outN x = .tuple #[.agg #[.int .i64 0, .int .i64 0], .int .i64 3]) := by
    by_cases hf : Fits x
    · refine Or.inl ⟨if_pos ?_, if_pos hf⟩
      unfold Fits MaxN at hf
      omega
    · refine Or.inr ⟨if_neg ?_, if_neg hf⟩
      intro k
      apply hf
      unfold Fits MaxN
      omega
  generalize outN x = ov at hcase ⊢
  generalize x.num = p at HF hcase
  generalize (x.den : Int) = q at HF hcase
  rcases hcase with ⟨e1, rfl⟩ | ⟨e1, rfl⟩
  · rw [e1] at HF
    clear e1
    go_enter Try.func27, Try.ntmps27
    go_upto_region 1 with fail
    generalize hX : (w.alloc _).alloc _ = X
    have HX : Hid (Below w.heap.size w X) := by
      subst hX
      exact below_two w _ _
    obtain ⟨⟨k0, k1, k2, k3, k4, k5⟩, ⟨x0, x1, x2, x3⟩, z1⟩ : (X.cell? ⟨w.heap.size, 0, none⟩ = some (.int .i64 s1) ∧ X.cell? ⟨w.heap.size, 1, none⟩ = some (.bool n1) ∧ X.cell? ⟨w.heap.size, 2, none⟩ = some (.slice A1 m1 c1) ∧ X.cell? ⟨w.heap.size, 3, none⟩ = some (.int .i64 s2) ∧ X.cell? ⟨w.heap.size, 4, none⟩ = some (.bool n2) ∧ X.cell? ⟨w.heap.size, 5, none⟩ = some (.slice A2 m2 c2)) ∧
        (X.cell? ⟨w.heap.size + 1, 0, none⟩ = some (.int .i64 0) ∧ X.cell? ⟨w.heap.size + 1, 1, none⟩ = some (.int .i64 0) ∧ X.frozen? ⟨w.heap.size + 1, 0, none⟩ = false ∧ X.frozen? ⟨w.heap.size + 1, 1, none⟩ = false) ∧ w.heap.size + 1 < X.heap.size := by
      subst hX
      simp [go_sem]
    clear hX
    go_wp2_with fail
    (with_reducible refine (HF.out _ HX.out).mono ?_)
    rintro e w1 ⟨rfl, hB1⟩
    have HB1 := Lib.hid (HX.out.trans (hB1.mono HX.out.size))
    obtain ⟨C1, F1⟩ := bcell hB1
    have HGT : Hid (w.heap.size + 1 < w1.heap.size) := Nat.lt_of_lt_of_le z1 hB1.size
    rw [← C1 _ _ z1] at x0 x1
    rw [← F1 _ _ z1] at x2 x3
    clear k0 k1 k2 k3 k4 k5 C1 F1 hB1 z1
    go_upto_region 2 with fail
    generalize hY : w1.alloc _ = Y
    have HY : Hid (Below w.heap.size w Y) := by
      subst hY
      exact HB1.out.alloc HB1.out.size _
    obtain ⟨⟨y0, y1⟩, y2, y3, y4, y5⟩ : (Y.cell? ⟨w1.heap.size, 0, none⟩ = some (.int .i64 p) ∧ Y.cell? ⟨w1.heap.size, 1, none⟩ = some (.int .i64 q)) ∧ Y.cell? ⟨w.heap.size + 1, 0, none⟩ = some (.int .i64 0) ∧ Y.cell? ⟨w.heap.size + 1, 1, none⟩ = some (.int .i64 0) ∧ Y.frozen? ⟨w.heap.size + 1, 0, none⟩ = false ∧ Y.frozen? ⟨w.heap.size + 1, 1, none⟩ = false := by
      subst hY
      have hA := below_alloc w1 (.cells #[.int .i64 p, .int .i64 q] 23)
      refine ⟨by simp [go_sem], ?_, ?_, ?_, ?_⟩
      · exact (hA.cell (p := ⟨w.heap.size + 1, 0, none⟩) HGT.out).trans x0
      · exact (hA.cell (p := ⟨w.heap.size + 1, 1, none⟩) HGT.out).trans x1
      · exact (hA.frozen (p := ⟨w.heap.size + 1, 0, none⟩) HGT.out).trans x2
      · exact (hA.frozen (p := ⟨w.heap.size + 1, 1, none⟩) HGT.out).trans x3
    clear hY x0 x1 x2 x3 HX HB1 HGT HF
    go_wp2_with fail
    exact bodyPost_ret (v := .tuple #[.agg #[.int .i64 p, .int .i64 q], .int .i64 0]) (by simp [results, Try.results27, go_sem, y2, y3]) rfl ⟨rfl, (HY.out.setCell (Nat.le_succ _) _).setCell (Nat.le_succ _) _⟩
  · rw [e1] at HF
    clear e1
    go_enter Try.func27, Try.ntmps27
    go_upto_region 1 with fail
    generalize hX : (w.alloc _).alloc _ = X
    have HX : Hid (Below w.heap.size w X) := by
      subst hX
      exact below_two w _ _
    obtain ⟨⟨k0, k1, k2, k3, k4, k5⟩, ⟨x0, x1, x2, x3⟩, z1⟩ : (X.cell? ⟨w.heap.size, 0, none⟩ = some (.int .i64 s1) ∧ X.cell? ⟨w.heap.size, 1, none⟩ = some (.bool n1) ∧ X.cell? ⟨w.heap.size, 2, none⟩ = some (.slice A1 m1 c1) ∧ X.cell? ⟨w.heap.size, 3, none⟩ = some (.int .i64 s2) ∧ X.cell? ⟨w.heap.size, 4, none⟩ = some (.bool n2) ∧ X.cell? ⟨w.heap.size, 5, none⟩ = some (.slice A2 m2 c2)) ∧
        (X.cell? ⟨w.heap.size + 1, 0, none⟩ = some (.int .i64 0) ∧ X.cell? ⟨w.heap.size + 1, 1, none⟩ = some (.int .i64 0) ∧ X.frozen? ⟨w.heap.size + 1, 0, none⟩ = false ∧ X.frozen? ⟨w.heap.size + 1, 1, none⟩ = false) ∧ w.heap.size + 1 < X.heap.size := by
      subst hX
      simp [go_sem]
    clear hX
    go_wp2_with fail
    (with_reducible refine (HF.out _ HX.out).mono ?_)
    rintro e w1 ⟨rfl, hB1⟩
    have HB1 := Lib.hid (HX.out.trans (hB1.mono HX.out.size))
    obtain ⟨C1, F1⟩ := bcell hB1
    have HGT : Hid (w.heap.size + 1 < w1.heap.size) := Nat.lt_of_lt_of_le z1 hB1.size
    rw [← C1 _ _ z1] at x0 x1
    rw [← F1 _ _ z1] at x2 x3
    clear k0 k1 k2 k3 k4 k5 C1 F1 hB1 z1
    go_upto_region 2 with fail
    generalize hY : w1.alloc _ = Y
    have HY : Hid (Below w.heap.size w Y) := by
      subst hY
      exact HB1.out.alloc HB1.out.size _
    obtain ⟨⟨y0, y1⟩, y2, y3, y4, y5⟩ : (Y.cell? ⟨w1.heap.size, 0, none⟩ = some (.int .i64 0) ∧ Y.cell? ⟨w1.heap.size, 1, none⟩ = some (.int .i64 0)) ∧ Y.cell? ⟨w.heap.size + 1, 0, none⟩ = some (.int .i64 0) ∧ Y.cell? ⟨w.heap.size + 1, 1, none⟩ = some (.int .i64 0) ∧ Y.frozen? ⟨w.heap.size + 1, 0, none⟩ = false ∧ Y.frozen? ⟨w.heap.size + 1, 1, none⟩ = false := by
      subst hY
      have hA := below_alloc w1 (.cells #[.int .i64 0, .int .i64 0] 23)
      refine ⟨by simp [go_sem], ?_, ?_, ?_, ?_⟩
      · exact (hA.cell (p := ⟨w.heap.size + 1, 0, none⟩) HGT.out).trans x0
      · exact (hA.cell (p := ⟨w.heap.size + 1, 1, none⟩) HGT.out).trans x1
      · exact (hA.frozen (p := ⟨w.heap.size + 1, 0, none⟩) HGT.out).trans x2
      · exact (hA.frozen (p := ⟨w.heap.size + 1, 1, none⟩) HGT.out).trans x3
    clear hY x0 x1 x2 x3 HX HB1 HGT HF
    go_wp2_with fail
    exact bodyPost_ret (v := .tuple #[.agg #[.int .i64 0, .int .i64 0], .int .i64 3]) (by simp [results, Try.results27, go_sem, y2, y3]) rfl ⟨rfl, (HY.out.setCell (Nat.le_succ _) _).setCell (Nat.le_succ _) _⟩

end Go.Proofs.Ytfhmhkbjcccejaa
