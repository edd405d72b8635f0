/- Fractions of the reference in memory: Make. -/
import Derived.Test.YtmfnpipmbpnfbaaGreatDoorF19

set_option maxRecDepth 100000
set_option maxHeartbeats 40000000
namespace Go.Proofs.YtmfnpipmbpnfbaaGreatDoor
open Go.RowKit
def W6 (g : Nat) (w : World) : Prop := (∃ a b c d e f, w.cell? ⟨g, 0, none⟩ = some a ∧ w.cell? ⟨g, 1, none⟩ = some b ∧ w.cell? ⟨g, 2, none⟩ = some c ∧ w.cell? ⟨g, 3, none⟩ = some d ∧ w.cell? ⟨g, 4, none⟩ = some e ∧ w.cell? ⟨g, 5, none⟩ = some f) ∧
  (w.frozen? ⟨g, 0, none⟩ = false ∧ w.frozen? ⟨g, 1, none⟩ = false ∧ w.frozen? ⟨g, 2, none⟩ = false ∧ w.frozen? ⟨g, 3, none⟩ = false ∧ w.frozen? ⟨g, 4, none⟩ = false ∧ w.frozen? ⟨g, 5, none⟩ = false) ∧ Bx w g 127
theorem W6.of {g : Nat} {w w' : World} (h : W6 g w) (hc : ∀ o, w'.cell? ⟨g, o, none⟩ = w.cell? ⟨g, o, none⟩) (hf : ∀ o, w'.frozen? ⟨g, o, none⟩ = w.frozen? ⟨g, o, none⟩) (hx : Bx w' g 127) : W6 g w' := by
  obtain ⟨⟨a, b, c, d, e, f, h0, h1, h2, h3, h4, h5⟩, ⟨f0, f1, f2, f3, f4, f5⟩, -⟩ := h
  exact ⟨⟨a, b, c, d, e, f, (hc _).trans h0, (hc _).trans h1, (hc _).trans h2, (hc _).trans h3, (hc _).trans h4, (hc _).trans h5⟩, ⟨(hf _).trans f0, (hf _).trans f1, (hf _).trans f2, (hf _).trans f3, (hf _).trans f4, (hf _).trans f5⟩, hx⟩
theorem W6.keep {g : Nat} {w w' : World} (h : W6 g w) (hB : Below w.heap.size w w') : W6 g w' :=
  h.of (fun _ => hB.cell (p := ⟨g, _, none⟩) h.2.2.lt) (fun _ => hB.frozen (p := ⟨g, _, none⟩) h.2.2.lt) (h.2.2.keep hB)
theorem W6.far {g k : Nat} {w : World} (h : W6 g w) (hk : g ≠ k) (o : Nat) (u : Value) : W6 g (w.setCell ⟨k, o, none⟩ u) := by
  have e : (w.setCell ⟨k, o, none⟩ u).heap[g]? = w.heap[g]? := Below.heap_setCell _ _ _ _ hk
  exact h.of (fun _ => World.cell?_of_block (w := w) (a := ⟨g, _, none⟩) e) (fun _ => World.frozen?_of_block (w := w) (a := ⟨g, _, none⟩) e) (h.2.2.set _ _ _)
theorem W6.set_3 {g k : Nat} {w : World} (h : W6 g w) (hk : g ≠ k) (a b c : Value) : W6 g (set3 w k a b c) := ((h.far hk _ _).far hk _ _).far hk _ _
theorem W6.new (w : World) (a b c d e f : Value) {g : Nat} (hg : g = w.heap.size) : W6 g (w.alloc (.cells #[a, b, c, d, e, f] 127)) := by
  subst hg
  refine ⟨⟨a, b, c, d, e, f, ?_, ?_, ?_, ?_, ?_, ?_⟩, ⟨?_, ?_, ?_, ?_, ?_, ?_⟩, Bx.new w _ 127⟩ <;> simp [go_sem]
structure MkL (w : World) (p q : Int) (wr : World) : Prop where
  below : Below w.heap.size w wr
  wa : W3 w.heap.size wr
  wb : W3 (w.heap.size + 1) wr
  wc : W6 (w.heap.size + 1 + 1) wr
  ba : BI wr w.heap.size p
  bb : BI wr (w.heap.size + 1) q
theorem MkL.keep {w wr wx : World} {p q : Int} (h : MkL w p q wr) (hb : Below wr.heap.size wr wx) : MkL w p q wx :=
  ⟨h.below.trans (hb.mono h.below.size), h.wa.keep hb, h.wb.keep hb, h.wc.keep hb, h.ba.keep hb, h.bb.keep hb⟩
theorem MkL.set_a {w wr : World} {p q z : Int} (h : MkL w p q wr) {s : Int} {neg : Bool} {A : Option Addr} {n c : Nat} (hz : RI wr s neg A n c z) : MkL w z q (set3 wr w.heap.size (.int .i64 s) (.bool neg) (.slice A n c)) :=
  ⟨set3_below h.below (Nat.le_refl _) _ _ _, (h.wa.set _ _ _).2, h.wb.set_3 (by omega) _ _ _, h.wc.set_3 (by omega) _ _ _, ⟨s, neg, A, n, c, (h.wa.set _ _ _).1, hz.set_3 h.wa _ _ _⟩, h.bb.set_3 (by omega) h.wa _ _ _⟩
theorem MkL.set_b {w wr : World} {p q z : Int} (h : MkL w p q wr) {s : Int} {neg : Bool} {A : Option Addr} {n c : Nat} (hz : RI wr s neg A n c z) : MkL w p z (set3 wr (w.heap.size + 1) (.int .i64 s) (.bool neg) (.slice A n c)) :=
  ⟨set3_below h.below (Nat.le_succ _) _ _ _, h.wa.set_3 (by omega) _ _ _, (h.wb.set _ _ _).2, h.wc.set_3 (by omega) _ _ _, h.ba.set_3 (by omega) h.wb _ _ _, ⟨s, neg, A, n, c, (h.wb.set _ _ _).1, hz.set_3 h.wb _ _ _⟩⟩
def RetRt (p q : Int) (w : World) (e : Ending) (w' : World) : Prop :=
  ∃ s neg A n c s' neg' A' n' c', e = .returned (.agg #[.int .i64 s, .bool neg, .slice A n c, .int .i64 s', .bool neg', .slice A' n' c']) ∧ RI w' s neg A n c p ∧ RI w' s' neg' A' n' c' q ∧ Below w.heap.size w w'
def set6 (w : World) (g : Nat) (a b c d e f : Value) : World := (((((w.setCell ⟨g, 0, none⟩ a).setCell ⟨g, 1, none⟩ b).setCell ⟨g, 2, none⟩ c).setCell ⟨g, 3, none⟩ d).setCell ⟨g, 4, none⟩ e).setCell ⟨g, 5, none⟩ f
theorem RI.set_6 {w : World} {s : Int} {neg : Bool} {A : Option Addr} {n c : Nat} {z : Int} (h : RI w s neg A n c z) {g : Nat} (hx : Bx w g 127) (p q r p' q' r' : Value) : RI (set6 w g p q r p' q' r') s neg A n c z :=
  (((((h.set hx (by decide) _ _).set (hx.set _ _ _) (by decide) _ _).set ((hx.set _ _ _).set _ _ _) (by decide) _ _).set (((hx.set _ _ _).set _ _ _).set _ _ _) (by decide) _ _).set ((((hx.set _ _ _).set _ _ _).set _ _ _).set _ _ _) (by decide) _ _).set (((((hx.set _ _ _).set _ _ _).set _ _ _).set _ _ _).set _ _ _) (by decide) _ _
theorem set6_below {base : Nat} {X w : World} (h : Below base X w) {g : Nat} (hg : base ≤ g) (a b c d e f : Value) : Below base X (set6 w g a b c d e f) := (((((h.setCell hg _).setCell hg _).setCell hg _).setCell hg _).setCell hg _).setCell hg _
theorem retRt_box {w w1 wf : World} {p q s s' : Int} {neg neg' : Bool} {A A' : Option Addr} {n c n' c' g : Nat} (hb : Below w.heap.size w w1) (hg : w.heap.size ≤ g) (h : RI w1 s neg A n c p) (h' : RI w1 s' neg' A' n' c' q) (hx : Bx w1 g 127)
    (hw : Drn (set6 w1 g (.int .i64 s) (.bool neg) (.slice A n c) (.int .i64 s') (.bool neg') (.slice A' n' c')) wf) : RetRt p q w (.returned (.agg #[.int .i64 s, .bool neg, .slice A n c, .int .i64 s', .bool neg', .slice A' n' c'])) wf :=
  ⟨s, neg, A, n, c, s', neg', A', n', c', rfl, (h.set_6 hx _ _ _ _ _ _).drn hw, (h'.set_6 hx _ _ _ _ _ _).drn hw, (set6_below hb hg _ _ _ _ _ _).trans (hw.below _)⟩
theorem Drn.same (w : World) : Drn w w := ⟨0, rfl⟩
theorem retRt_box0 {w w1 : World} {p q s s' : Int} {neg neg' : Bool} {A A' : Option Addr} {n c n' c' g : Nat} (hb : Below w.heap.size w w1) (hg : w.heap.size ≤ g) (h : RI w1 s neg A n c p) (h' : RI w1 s' neg' A' n' c' q) (hx : Bx w1 g 127) :
    RetRt p q w (.returned (.agg #[.int .i64 s, .bool neg, .slice A n c, .int .i64 s', .bool neg', .slice A' n' c'])) (set6 w1 g (.int .i64 s) (.bool neg) (.slice A n c) (.int .i64 s') (.bool neg') (.slice A' n' c')) := retRt_box hb hg h h' hx (Drn.same _)
def GN (w : World) (P Q : Value) (p q : Int) (i : Nat) (u : Value) (wx : World) : Prop :=
  match i with
  | 0 => u = P
  | 1 => IV wx u p
  | 2 => u = Q
  | 3 => IV wx u q
  | 4 => BI wx w.heap.size p
  | 5 => BI wx (w.heap.size + 1) q
  | _ => True
structure FN6 (w : World) (z z' : Int) (s1 s2 : Int) (n1 n2 : Bool) (A1 A2 : Option Addr) (m1 c1 m2 c2 : Nat) (wx : World) : Prop where
  below : Below w.heap.size w wx
  wa : W3 w.heap.size wx
  wb : W3 (w.heap.size + 1) wx
  wc : W6 (w.heap.size + 1 + 1) wx
  ra : RI wx s1 n1 A1 m1 c1 z
  rb : RI wx s2 n2 A2 m2 c2 z'
section
variable {w wx wy : World} {z z' p q s1 s2 : Int} {n1 n2 : Bool} {A1 A2 : Option Addr} {m1 c1 m2 c2 : Nat} {P Q : Value} {b : Nat → Bool} {v : Nat → Value}
theorem FN6.keep (h : FN6 w z z' s1 s2 n1 n2 A1 A2 m1 c1 m2 c2 wx) (hb : Below wx.heap.size wx wy) : FN6 w z z' s1 s2 n1 n2 A1 A2 m1 c1 m2 c2 wy :=
  ⟨h.below.trans (hb.mono h.below.size), h.wa.keep hb, h.wb.keep hb, h.wc.keep hb, h.ra.keep hb, h.rb.keep hb⟩
theorem FN6.set_a (h : FN6 w z z' s1 s2 n1 n2 A1 A2 m1 c1 m2 c2 wx) (a c d : Value) : FN6 w z z' s1 s2 n1 n2 A1 A2 m1 c1 m2 c2 (set3 wx w.heap.size a c d) :=
  ⟨set3_below h.below (Nat.le_refl _) _ _ _, (h.wa.set _ _ _).2, h.wb.set_3 (by omega) _ _ _, h.wc.set_3 (by omega) _ _ _, h.ra.set_3 h.wa _ _ _, h.rb.set_3 h.wa _ _ _⟩
theorem FN6.set_b (h : FN6 w z z' s1 s2 n1 n2 A1 A2 m1 c1 m2 c2 wx) (a c d : Value) : FN6 w z z' s1 s2 n1 n2 A1 A2 m1 c1 m2 c2 (set3 wx (w.heap.size + 1) a c d) :=
  ⟨set3_below h.below (Nat.le_succ _) _ _ _, h.wa.set_3 (by omega) _ _ _, (h.wb.set _ _ _).2, h.wc.set_3 (by omega) _ _ _, h.ra.set_3 h.wb _ _ _, h.rb.set_3 h.wb _ _ _⟩
theorem GN.keep {i : Nat} {u : Value} (h : GN w P Q p q i u wx) (hb : Below wx.heap.size wx wy) : GN w P Q p q i u wy := by
  by_cases h6 : i < 6
  · rcases (by omega : i = 0 ∨ i = 1 ∨ i = 2 ∨ i = 3 ∨ i = 4 ∨ i = 5) with rfl | rfl | rfl | rfl | rfl | rfl
    all_goals first | exact IV.keep h hb | exact BI.keep h hb | exact h
  · obtain ⟨k, rfl⟩ : ∃ k, i = k + 6 := ⟨i - 6, by omega⟩
    exact trivial
theorem GN.set_a {i : Nat} {u : Value} (h : GN w P Q p q i u wx) (hi : i ≠ 4) (hw : W3 w.heap.size wx) (a c d : Value) : GN w P Q p q i u (set3 wx w.heap.size a c d) := by
  by_cases h6 : i < 6
  · rcases (by omega : i = 0 ∨ i = 1 ∨ i = 2 ∨ i = 3 ∨ i = 4 ∨ i = 5) with rfl | rfl | rfl | rfl | rfl | rfl
    all_goals first | exact IV.set_3 h hw _ _ _ | exact BI.set_3 h (by omega) hw _ _ _ | exact (hi rfl).elim | exact h
  · obtain ⟨k, rfl⟩ : ∃ k, i = k + 6 := ⟨i - 6, by omega⟩
    exact trivial
theorem GN.set_b {i : Nat} {u : Value} (h : GN w P Q p q i u wx) (hi : i ≠ 5) (hw : W3 (w.heap.size + 1) wx) (a c d : Value) : GN w P Q p q i u (set3 wx (w.heap.size + 1) a c d) := by
  by_cases h6 : i < 6
  · rcases (by omega : i = 0 ∨ i = 1 ∨ i = 2 ∨ i = 3 ∨ i = 4 ∨ i = 5) with rfl | rfl | rfl | rfl | rfl | rfl
    all_goals first | exact IV.set_3 h hw _ _ _ | exact BI.set_3 h (by omega) hw _ _ _ | exact (hi rfl).elim | exact h
  · obtain ⟨k, rfl⟩ : ∃ k, i = k + 6 := ⟨i - 6, by omega⟩
    exact trivial
end
structure JN (w : World) (z z' p q : Int) (s1 s2 : Int) (n1 n2 : Bool) (A1 A2 : Option Addr) (m1 c1 m2 c2 : Nat) (b : Nat → Bool) (v : Nat → Value) (wx : World) : Prop where
  fix : FN6 w z z' s1 s2 n1 n2 A1 A2 m1 c1 m2 c2 wx
  ba : b 4 = false → B3 w.heap.size (.int .i64 s1) (.bool n1) (.slice A1 m1 c1) wx
  bb : b 5 = false → B3 (w.heap.size + 1) (.int .i64 s2) (.bool n2) (.slice A2 m2 c2) wx
  f4 : b 4 = true → b 0 = true
  f5 : b 5 = true → b 2 = true
  all : ∀ i, b i = true → GN w (.agg #[.int .i64 s1, .bool n1, .slice A1 m1 c1]) (.agg #[.int .i64 s2, .bool n2, .slice A2 m2 c2]) p q i (v (9 + i)) wx
theorem upd_same {b : Nat → Bool} {i : Nat} : updB b i i = true := by unfold updB; rw [if_pos rfl]
theorem upd_other {b : Nat → Bool} {i j : Nat} (h : j ≠ i) : updB b i j = b j := by unfold updB; rw [if_neg h]
theorem upd_true {b : Nat → Bool} {i j : Nat} (h : b j = true) : updB b i j = true := by
  unfold updB
  split
  · rfl
  · exact h
section
variable {w wx wy : World} {z z' p q s1 s2 : Int} {n1 n2 : Bool} {A1 A2 : Option Addr} {m1 c1 m2 c2 : Nat} {b : Nat → Bool} {v : Nat → Value}
theorem JN.keep (h : JN w z z' p q s1 s2 n1 n2 A1 A2 m1 c1 m2 c2 b v wx) (hb : Below wx.heap.size wx wy) : JN w z z' p q s1 s2 n1 n2 A1 A2 m1 c1 m2 c2 b v wy :=
  ⟨h.fix.keep hb, fun k => (h.ba k).keep hb, fun k => (h.bb k).keep hb, h.f4, h.f5, fun i hi => (h.all i hi).keep hb⟩
theorem JN.put (h : JN w z z' p q s1 s2 n1 n2 A1 A2 m1 c1 m2 c2 b v wx) (i : Nat) (hi : i ≠ 4 ∧ i ≠ 5) {u : Value} (hu : GN w (.agg #[.int .i64 s1, .bool n1, .slice A1 m1 c1]) (.agg #[.int .i64 s2, .bool n2, .slice A2 m2 c2]) p q i u wx) : JN w z z' p q s1 s2 n1 n2 A1 A2 m1 c1 m2 c2 (updB b i) (updV v (9 + i) u) wx := by
  refine ⟨h.fix, fun k => h.ba (by rw [upd_other (Ne.symm hi.1)] at k; exact k), fun k => h.bb (by rw [upd_other (Ne.symm hi.2)] at k; exact k), fun k => upd_true (h.f4 (by rw [upd_other (Ne.symm hi.1)] at k; exact k)), fun k => upd_true (h.f5 (by rw [upd_other (Ne.symm hi.2)] at k; exact k)), fun j hj => ?_⟩
  unfold updB at hj
  unfold updV
  by_cases e : j = i
  · subst e
    rw [if_pos rfl]
    exact hu
  · rw [if_neg e] at hj
    rw [if_neg (by omega)]
    exact h.all j hj
theorem JN.store_a (h : JN w z z' p q s1 s2 n1 n2 A1 A2 m1 c1 m2 c2 b v wx) (h0 : b 0 = true) {s : Int} {neg : Bool} {A : Option Addr} {n c : Nat} (hu : RI wx s neg A n c p) : JN w z z' p q s1 s2 n1 n2 A1 A2 m1 c1 m2 c2 (updB b 4) v (set3 wx w.heap.size (.int .i64 s) (.bool neg) (.slice A n c)) := by
  refine ⟨h.fix.set_a _ _ _, fun k => by rw [upd_same] at k; exact Bool.noConfusion k, fun k => (h.bb (by rw [upd_other (by decide)] at k; exact k)).set_3 (by omega) _ _ _, fun _ => upd_true h0, fun k => upd_true (h.f5 (by rw [upd_other (by decide)] at k; exact k)), fun j hj => ?_⟩
  by_cases e : j = 4
  · subst e
    exact ⟨s, neg, A, n, c, (h.fix.wa.set _ _ _).1, hu.set_3 h.fix.wa _ _ _⟩
  · rw [upd_other e] at hj
    exact (h.all j hj).set_a e h.fix.wa _ _ _
theorem JN.store_b (h : JN w z z' p q s1 s2 n1 n2 A1 A2 m1 c1 m2 c2 b v wx) (h0 : b 2 = true) {s : Int} {neg : Bool} {A : Option Addr} {n c : Nat} (hu : RI wx s neg A n c q) : JN w z z' p q s1 s2 n1 n2 A1 A2 m1 c1 m2 c2 (updB b 5) v (set3 wx (w.heap.size + 1) (.int .i64 s) (.bool neg) (.slice A n c)) := by
  refine ⟨h.fix.set_b _ _ _, fun k => (h.ba (by rw [upd_other (by decide)] at k; exact k)).set_3 (by omega) _ _ _, fun k => by rw [upd_same] at k; exact Bool.noConfusion k, fun k => upd_true (h.f4 (by rw [upd_other (by decide)] at k; exact k)), fun _ => upd_true h0, fun j hj => ?_⟩
  by_cases e : j = 5
  · subst e
    exact ⟨s, neg, A, n, c, (h.fix.wb.set _ _ _).1, hu.set_3 h.fix.wb _ _ _⟩
  · rw [upd_other e] at hj
    exact (h.all j hj).set_b e h.fix.wb _ _ _
theorem JN.done (h : JN w z z' p q s1 s2 n1 n2 A1 A2 m1 c1 m2 c2 b v wx) (h4 : b 4 = true) (h5 : b 5 = true) : MkL w p q wx :=
  ⟨h.fix.below, h.fix.wa, h.fix.wb, h.fix.wc, h.all 4 h4, h.all 5 h5⟩
theorem JN.start {X : World} (h : MkL w z z' X) (ha : B3 w.heap.size (.int .i64 s1) (.bool n1) (.slice A1 m1 c1) X) (hb : B3 (w.heap.size + 1) (.int .i64 s2) (.bool n2) (.slice A2 m2 c2) X) (ra : RI X s1 n1 A1 m1 c1 z) (rb : RI X s2 n2 A2 m2 c2 z') : JN w z z' p q s1 s2 n1 n2 A1 A2 m1 c1 m2 c2 (fun _ => false) v X.drew :=
  ⟨⟨Below.drew h.below, h.wa, h.wb, h.wc, ra, rb⟩, fun _ => ha, fun _ => hb, fun k => Bool.noConfusion k, fun k => Bool.noConfusion k, fun _ k => Bool.noConfusion k⟩
end
theorem rmake_any (s s' : Int) (neg neg' : Bool) (A A' : Option Addr) (n c n' c' K : Nat) (z z' : Int) (w : World) (h : RI w s neg A n c z) (h' : RI w s' neg' A' n' c' z') (hK : K ≤ 250000) (hz : z.natAbs < Bs ^ K) (hz' : z'.natAbs < Bs ^ K) (h0 : z' ≠ 0) :
    Calls Tryz.prog 129 #[.agg #[.int .i64 s, .bool neg, .slice A n c], .agg #[.int .i64 s', .bool neg', .slice A' n' c']] w (RetRt ((if z' < 0 then -z else z).tdiv (Nat.gcd z.natAbs z'.natAbs : Nat)) ((if z' < 0 then -z' else z').tdiv (Nat.gcd z.natAbs z'.natAbs : Nat)) w) := by
  have HS : Hid (∀ wx t b B m d x, RI wx t b B m d x → x.natAbs < Bs ^ K → Calls Tryz.prog 108 #[.agg #[.int .i64 t, .bool b, .slice B m d]] wx fun e w' => e = .returned (.int .i64 (sgnI x)) ∧ Below wx.heap.size wx w') := fun wx t b B m d x k1 k2 => rsign_any t b B m d x wx k1 (by have := k1.len k2; omega)
  have HM : Hid (∀ wx t b B m d x, RI wx t b B m d x → x.natAbs < Bs ^ K → Calls Tryz.prog 136 #[.agg #[.int .i64 t, .bool b, .slice B m d]] wx (RetI (-x) wx)) := fun wx t b B m d x k1 k2 => rminus_any t b B m d x wx k1 (by have := k1.len k2; omega)
  have HGC : Hid (∀ wx t b B m d x t' b' B' m' d' x', RI wx t b B m d x → RI wx t' b' B' m' d' x' → x.natAbs = z.natAbs → x'.natAbs = z'.natAbs → Calls Tryz.prog 128 #[.agg #[.int .i64 t, .bool b, .slice B m d], .agg #[.int .i64 t', .bool b', .slice B' m' d']] wx (RetI (Nat.gcd z.natAbs z'.natAbs : Nat) wx)) := fun wx t b B m d x t' b' B' m' d' x' k1 k2 e1 e2 => by
    rw [← e1, ← e2]
    exact rgcd_any t t' b b' B B' m d m' d' K x x' wx k1 k2 hK (by rw [e1]; exact hz) (by rw [e2]; exact hz')
  have HST : Hid (∀ X, Below w.heap.size w X → B3 w.heap.size (.int .i64 s) (.bool neg) (.slice A n c) X → B3 (w.heap.size + 1) (.int .i64 s') (.bool neg') (.slice A' n' c') X → W3 w.heap.size X → W3 (w.heap.size + 1) X → W6 (w.heap.size + 1 + 1) X → MkL w z z' X) := fun X k1 k2 k3 k4 k5 k6 =>
    ⟨k1, k4, k5, k6, ⟨s, neg, A, n, c, k2, h.keep k1⟩, ⟨s', neg', A', n', c', k3, h'.keep k1⟩⟩
  have HZ := Lib.hid hz
  have HZ' := Lib.hid hz'
  have H0 := Lib.hid h0
  have hgp : Nat.gcd z.natAbs z'.natAbs ≤ z'.natAbs := Nat.le_of_dvd (by omega) (Nat.gcd_dvd_right _ _)
  have HOF : Hid (∀ wx, Calls Tryz.prog 70 #[.int .i64 1] wx (RetI 1 wx)) := fun wx => rof_any 1 wx (by decide) (by decide)
  have HCM : Hid (∀ wx t b B m d t' b' B' m' d', RI wx t b B m d (Nat.gcd z.natAbs z'.natAbs : Nat) → RI wx t' b' B' m' d' 1 → Calls Tryz.prog 71 #[.agg #[.int .i64 t, .bool b, .slice B m d], .agg #[.int .i64 t', .bool b', .slice B' m' d']] wx fun e w' => e = .returned (.int .i64 (sgnI ((Nat.gcd z.natAbs z'.natAbs : Nat) - 1))) ∧ Below wx.heap.size wx w') := fun wx t b B m d t' b' B' m' d' k1 k2 =>
    rcompare_any t t' b b' B B' m d m' d' K _ 1 wx k1 k2 hK (by rw [Int.natAbs_natCast]; omega) (by simp only [Int.natAbs_one]; omega)
  have HOV : Hid (∀ wx t b B m d x t' b' B' m' d', RI wx t b B m d x → RI wx t' b' B' m' d' (Nat.gcd z.natAbs z'.natAbs : Nat) → x.natAbs < Bs ^ K → Calls Tryz.prog 153 #[.agg #[.int .i64 t, .bool b, .slice B m d], .agg #[.int .i64 t', .bool b', .slice B' m' d']] wx (RetII (x.tdiv (Nat.gcd z.natAbs z'.natAbs : Nat)) (x.tmod (Nat.gcd z.natAbs z'.natAbs : Nat)) wx)) := fun wx t b B m d x t' b' B' m' d' k1 k2 k3 =>
    rover_any t t' b b' B B' m d m' d' K x _ wx k1 k2 hK k3 (by rw [Int.natAbs_natCast]; omega) (by have := Nat.gcd_pos_of_pos_right z.natAbs (show 0 < z'.natAbs by omega); omega)
  clear hgp
  obtain ⟨p, hp⟩ : ∃ p, (if z' < 0 then -z else z) = p := ⟨_, rfl⟩
  obtain ⟨q, hq⟩ : ∃ q, (if z' < 0 then -z' else z') = q := ⟨_, rfl⟩
  obtain ⟨G, hG⟩ : ∃ G, Nat.gcd z.natAbs z'.natAbs = G := ⟨_, rfl⟩
  rw [hG] at HGC HCM HOV
  rw [hp, hq, hG]
  have HP := Lib.hid hp
  have HQ := Lib.hid hq
  have HG := Lib.hid hG
  have HK := Lib.hid hK
  clear h h' hz hz' h0 hp hq hG hK
  go_enter Tryz.func129, Tryz.ntmps129
  go_upto_region 1 with fail
  generalize hX : (((w.alloc _).alloc _).alloc _) = X
  have HX : Hid (MkL w z z' X) := by
    subst hX
    refine HST.out _ ?_ ?_ ?_ ?_ ?_ ?_
    · exact (((Below.refl _ _).alloc (Nat.le_refl _) _).alloc (by simp) _).alloc (by simp; omega) _
    · simp [B3, go_sem]
    · simp [B3, go_sem]
    · exact ((W3.new w _ _ _ rfl).keep (below_alloc _ _)).keep (below_alloc _ _)
    · exact (W3.new _ _ _ _ (by simp)).keep (below_alloc _ _)
    · exact W6.new _ _ _ _ _ _ _ (by simp)
  clear hX HST
  obtain ⟨s1, n1, A1, m1, c1, ⟨a0, a1, a2, a3⟩, hRI1⟩ := HX.out.ba
  obtain ⟨s2, n2, A2, m2, c2, ⟨d0, d1, d2, d3⟩, hRI2⟩ := HX.out.bb
  have HRI1 := Lib.hid hRI1
  have HRI2 := Lib.hid hRI2
  have HBa : Hid (B3 w.heap.size (.int .i64 s1) (.bool n1) (.slice A1 m1 c1) X) := ⟨a0, a1, a2, a3⟩
  have HBb : Hid (B3 (w.heap.size + 1) (.int .i64 s2) (.bool n2) (.slice A2 m2 c2) X) := ⟨d0, d1, d2, d3⟩
  clear hRI1 hRI2 a0 a1 a2
  go_wp2_with fail
  (with_reducible refine (HS.out _ _ _ _ _ _ _ HRI2.out HZ'.out).mono ?_)
  rintro e w1 ⟨rfl, hB1⟩
  have HB1 := Lib.hid hB1
  have HX1 := Lib.hid (HX.out.keep hB1)
  obtain ⟨a0, a1, a2, a3'⟩ := HBa.out.keep hB1
  clear d0 d1 d2 d3
  obtain ⟨d0, d1, d2, d3⟩ := HBb.out.keep hB1
  clear hB1 a3
  by_cases g : z' < 0
  · have g1 : decide (sgnI z' < 0) = true := by rw [sgn_lt]; exact decide_eq_true g
    have hp := HP.out
    have hq := HQ.out
    rw [if_pos g] at hp hq
    have HMP : Hid (∀ wx t b B m d, RI wx t b B m d z → Calls Tryz.prog 136 #[.agg #[.int .i64 t, .bool b, .slice B m d]] wx (RetI p wx)) := fun wx t b B m d k => by
      rw [← hp]
      exact HM.out wx t b B m d z k HZ.out
    have HMQ : Hid (∀ wx t b B m d, RI wx t b B m d z' → Calls Tryz.prog 136 #[.agg #[.int .i64 t, .bool b, .slice B m d]] wx (RetI q wx)) := fun wx t b B m d k => by
      rw [← hq]
      exact HM.out wx t b B m d z' k HZ'.out
    generalize sgnI z' = q2 at g1 ⊢
    clear hp hq g
    have HR1 := Lib.hid (HRI1.out.keep HB1.out)
    have HR2 := Lib.hid (HRI2.out.keep HB1.out)
    have HBa1 := Lib.hid (HBa.out.keep HB1.out)
    have HBb1 := Lib.hid (HBb.out.keep HB1.out)
    clear HRI1 HRI2 HBa HBb HB1 HX HS HM
    go_upto_region 2 with fail
    refine wp_region_inv3 [9, 10, 11, 12] (JN w z z' p q s1 s2 n1 n2 A1 A2 m1 c1 m2 c2) (by kernel_rfl) (by kernel_rfl) (by kernel_rfl) ?_ ?_ ?_
    · exact JN.start HX1.out HBa1.out HBb1.out HR1.out HR2.out
    · intro i b v wx o T' K ho hdep hb hJ hin hout hK hK'
      have hi : i < 6 := (Array.getElem?_eq_some_iff.1 ho).1
      have q9 := hin 9 (by decide)
      have q10 := hin 10 (by decide)
      have q11 := hin 11 (by decide)
      have q12 := hin 12 (by decide)
      have t2 : T'[2]? = some (.pointer (some ⟨w.heap.size, 0, none⟩)) := (hout 2 (by decide)).trans rfl
      have t3 : T'[3]? = some (.pointer (some ⟨w.heap.size + 1, 0, none⟩)) := (hout 3 (by decide)).trans rfl
      clear hin hout
      have HJ := Lib.hid hJ
      have HX := Lib.hid hJ.fix
      have HD := Lib.hid hdep
      have HBF := Lib.hid hb
      clear hJ hdep hb
      rcases (by omega : i = 0 ∨ i = 1 ∨ i = 2 ∨ i = 3 ∨ i = 4 ∨ i = 5) with rfl | rfl | rfl | rfl | rfl | rfl
      · obtain rfl := Option.some.inj ho
        have hf : b 4 = false := by
          cases h4 : b 4 with
          | false => rfl
          | true => exact absurd (HJ.out.f4 h4) (by rw [HBF.out]; decide)
        obtain ⟨c0, c1', c2', c3⟩ := HJ.out.ba hf
        clear q9 q10 q11 q12 t3 ho hi hf
        go_simp
        exact hK 9 _ _ (by decide) (HJ.out.put 0 (by decide) rfl)
      · obtain rfl := Option.some.inj ho
        rw [show v 9 = .agg #[.int .i64 s1, .bool n1, .slice A1 m1 c1] from HJ.out.all 0 (HD.out ⟨0, .data⟩ (by simp) rfl)] at q9
        clear q10 q11 q12 t2 t3 ho hi
        go_simp
        (with_reducible refine (HMP.out _ _ _ _ _ _ HX.out.ra).mono ?_)
        rintro e w2 ⟨s3, n3, A3, m3, c3, rfl, hRI3, hB⟩
        exact hK 10 _ _ (by decide) ((HJ.out.keep hB).put 1 (by decide) ⟨s3, n3, A3, m3, c3, rfl, hRI3⟩)
      · obtain rfl := Option.some.inj ho
        have hf : b 5 = false := by
          cases h4 : b 5 with
          | false => rfl
          | true => exact absurd (HJ.out.f5 h4) (by rw [HBF.out]; decide)
        obtain ⟨c0, c1', c2', c3⟩ := HJ.out.bb hf
        clear q9 q10 q11 q12 t2 ho hi hf
        go_simp
        exact hK 11 _ _ (by decide) (HJ.out.put 2 (by decide) rfl)
      · obtain rfl := Option.some.inj ho
        rw [show v 11 = .agg #[.int .i64 s2, .bool n2, .slice A2 m2 c2] from HJ.out.all 2 (HD.out ⟨2, .data⟩ (by simp) rfl)] at q11
        clear q9 q10 q12 t2 t3 ho hi
        go_simp
        (with_reducible refine (HMQ.out _ _ _ _ _ _ HX.out.rb).mono ?_)
        rintro e w2 ⟨s3, n3, A3, m3, c3, rfl, hRI3, hB⟩
        exact hK 12 _ _ (by decide) ((HJ.out.keep hB).put 3 (by decide) ⟨s3, n3, A3, m3, c3, rfl, hRI3⟩)
      · obtain rfl := Option.some.inj ho
        obtain ⟨s3, n3, A3, m3, c3, e2, hRI⟩ : IV wx (v 10) p := HJ.out.all 1 (HD.out ⟨1, .data⟩ (by simp) rfl)
        rw [e2] at q10
        have HR := Lib.hid (HJ.out.store_a (HD.out ⟨0, .phase⟩ (by simp) rfl) hRI)
        obtain ⟨⟨p0, p1, p2, p3, p4, p5⟩, p6, p7, p8, -⟩ := HX.out.wa
        clear e2 hRI q9 q11 q12 t3 ho hi
        go_simp
        exact hK' _ HR.out
      · obtain rfl := Option.some.inj ho
        obtain ⟨s3, n3, A3, m3, c3, e2, hRI⟩ : IV wx (v 12) q := HJ.out.all 3 (HD.out ⟨3, .data⟩ (by simp) rfl)
        rw [e2] at q12
        have HR := Lib.hid (HJ.out.store_b (HD.out ⟨2, .phase⟩ (by simp) rfl) hRI)
        obtain ⟨⟨p0, p1, p2, p3, p4, p5⟩, p6, p7, p8, -⟩ := HX.out.wb
        clear e2 hRI q9 q10 q11 t2 ho hi
        go_simp
        exact hK' _ HR.out
    · intro b v wx hall hJ
      have HY : Hid (MkL w p q wx) := hJ.done (hall 4 (by decide)) (hall 5 (by decide))
      simp only [over, List.setIfInBounds_toArray, List.set_cons_zero, List.set_cons_succ]
      clear hall hJ
      generalize v 9 = v9
      generalize v 10 = v10
      generalize v 11 = v11
      generalize v 12 = v12
      clear HX1 HR1 HR2 HBa1 HBb1 HMP HMQ
      clear a0 a1 a2 a3' d0 d1 d2 d3
      revert HY
      generalize wx = Y
      intro HY
      go_upto_region 3 with fail
      have HPN : Hid (p.natAbs = z.natAbs) := by
        show _ = _
        rw [← HP.out]; split <;> simp
      have HQN : Hid (q.natAbs = z'.natAbs) := by
        show _ = _
        rw [← HQ.out]; split <;> simp
      obtain ⟨s5, n5, A5, m5, c5, ⟨y0, y1, y2, y3⟩, hR5⟩ := HY.out.ba
      obtain ⟨s6, n6, A6, m6, c6, ⟨v0, v1, v2, v3⟩, hR6⟩ := HY.out.bb
      have HR5 := Lib.hid hR5
      have HR6 := Lib.hid hR6
      clear hR5 hR6
      go_wp2_with fail
      (with_reducible refine (HGC.out _ _ _ _ _ _ _ _ _ _ _ _ _ HR5.out HR6.out HPN.out HQN.out).mono ?_)
      rintro e w4 ⟨s7, n7, A7, m7, c7, rfl, hRI7, hB4⟩
      have HY4 := Lib.hid (HY.out.keep hB4)
      have HR5' := Lib.hid (HR5.out.keep hB4)
      have HR6' := Lib.hid (HR6.out.keep hB4)
      have HR7 := Lib.hid hRI7
      clear y0 y1 y2 y3 v0 v1 v2 v3 hRI7 hB4
      go_upto_region 4 with fail
      generalize hZ : w4.alloc _ = Z
      have HZZ : Hid (Below w4.heap.size w4 Z ∧ B3 w4.heap.size (.int .i64 s7) (.bool n7) (.slice A7 m7 c7) Z) := by
        subst hZ
        exact ⟨below_alloc _ _, B3.new _ _ _ _⟩
      clear hZ
      have HYZ := Lib.hid (HY4.out.keep HZZ.out.1)
      have HR5Z := Lib.hid (HR5'.out.keep HZZ.out.1)
      have HR6Z := Lib.hid (HR6'.out.keep HZZ.out.1)
      have HR7Z := Lib.hid (HR7.out.keep HZZ.out.1)
      have HBG := Lib.hid HZZ.out.2
      obtain ⟨x0, x1, x2, x3⟩ := HBG.out
      have HGB := Lib.hid HY4.out.wc.2.2.lt
      clear HY4 HR5' HR6' HR7 HZZ HR5 HR6 HY
      generalize w4.heap.size = gb at HGB HBG x0 x1 x2 x3 ⊢
      clear w4
      go_region_held3 (fun w' => w'.cell? ⟨gb, 0, none⟩ = some (.int .i64 s7) ∧ w'.cell? ⟨gb, 1, none⟩ = some (.bool n7) ∧ w'.cell? ⟨gb, 2, none⟩ = some (.slice A7 m7 c7)) (simp [go_sem, *])
        (first
          | (go_at_call 70; (with_reducible refine (HOF.out _).mono ?_); rintro e w5 ⟨s8, n8, A8, m8, c8, rfl, hRI8, hB5⟩; (have hB5 : Below Z.heap.size Z w5 := by first | exact hB5 | exact below_undrew' hB5); have C5 := (bcell hB5).1; have HB5 := Lib.hid hB5; have HR8 := Lib.hid hRI8; clear hRI8 hB5)
          | (go_at_call 71; (with_reducible refine (HCM.out _ _ _ _ _ _ _ _ _ _ _ (by first | exact HR7Z.out.keep HB5.out | exact (HR7Z.out.keep HB5.out).drew) (by first | exact HR8.out | exact HR8.out.drew)).mono ?_); rintro e w6 ⟨rfl, hB6⟩; (have hB6 : Below w5.heap.size w5 w6 := by first | exact hB6 | exact below_undrew' hB6); have HB6 := Lib.hid (stepB HB5.out hB6); clear C5; have C6 := (bcell HB6.out).1; clear hB6))
      have HYF := Lib.hid (HYZ.out.keep HB6.out)
      have HRG := Lib.hid (HR7Z.out.keep HB6.out)
      have HBGn := Lib.hid (HBG.out.keep HB6.out)
      clear hB5 HB5 HR8 hB6 HB6 C6 x0 x1 x2 x3 HYZ HR5Z HR6Z HR7Z HBG
      have HBG := HBGn
      clear HBGn
      have HPB : Hid (p.natAbs < Bs ^ K) := by
        show _ < _
        rw [HPN.out]
        exact HZ.out
      have HQB : Hid (q.natAbs < Bs ^ K) := by
        show _ < _
        rw [HQN.out]
        exact HZ'.out
      by_cases hG1 : G = 1
      · have g2 : (sgnI ((G : Int) - 1) != 0) = false := by rw [hG1]; rfl
        have ep : p.tdiv (G : Int) = p := by rw [hG1]; exact Int.tdiv_one p
        have eq : q.tdiv (G : Int) = q := by rw [hG1]; exact Int.tdiv_one q
        have HEP := Lib.hid ep
        have HEQ := Lib.hid eq
        generalize sgnI ((G : Int) - 1) = q19 at g2 ⊢
        clear hG1 ep eq
        go_upto_region 7 with fail
        obtain ⟨s5, n5, A5, m5, c5, ⟨y0, y1, y2, -⟩, hR5⟩ := HYF.out.ba
        obtain ⟨s6, n6, A6, m6, c6, ⟨v0, v1, v2, -⟩, hR6⟩ := HYF.out.bb
        obtain ⟨⟨o0, o1, o2, o3, o4, o5, p0, p1, p2, p3, p4, p5⟩, ⟨f0, f1, f2, f3, f4, f5⟩, -⟩ := HYF.out.wc
        have HR5 := Lib.hid hR5
        have HR6 := Lib.hid hR6
        clear hR5 hR6
        go_wp2_with fail
        refine bodyPost_ret (v := .agg #[.int .i64 s5, .bool n5, .slice A5 m5 c5, .int .i64 s6, .bool n6, .slice A6 m6 c6]) (by simp [results, Tryz.results129, go_sem, p0, p1, p2, p3, p4, p5]) rfl ?_
        rw [HEP.out, HEQ.out]
        exact retRt_box0 HYF.out.below (Nat.le_trans (Nat.le_succ _) (Nat.le_succ _)) HR5.out HR6.out HYF.out.wc.2.2
      · have g2 : (sgnI ((G : Int) - 1) != 0) = true := by
          rw [bne_iff_ne]
          unfold sgnI
          split
          · decide
          · rw [if_neg (by omega)]; decide
        generalize sgnI ((G : Int) - 1) = q19 at g2 ⊢
        clear hG1
        go_upto_region 5 with fail
        obtain ⟨s5, n5, A5, m5, c5, ⟨y0, y1, y2, -⟩, hR5⟩ := HYF.out.ba
        obtain ⟨x0, x1, x2, x3⟩ := HBG.out
        have HR5 := Lib.hid hR5
        clear hR5 x3
        go_wp2_with fail
        (with_reducible refine (HOV.out _ _ _ _ _ _ _ _ _ _ _ _ HR5.out HRG.out HPB.out).mono ?_)
        rintro e w8 ⟨s9, n9, A9, m9, c9, s10, n10, A10, m10, c10, rfl, hq, hr, hB8⟩
        have HB8 := Lib.hid hB8
        have HQ8 := Lib.hid hq
        have H8 := Lib.hid (HYF.out.keep hB8)
        have HBG8 := Lib.hid (HBG.out.keep hB8)
        have HRG8 := Lib.hid (HRG.out.keep hB8)
        clear y0 y1 y2 x0 x1 x2 hq hr hB8 HR5 HYF HBG HRG
        obtain ⟨⟨o0, o1, o2, p0, p1, p2⟩, f0, f1, f2, -⟩ := H8.out.wa
        go_upto_region 6 with fail
        generalize hY2 : ((w8.setCell _ _).setCell _ _).setCell _ _ = Y2
        have HYF : Hid (MkL w (p.tdiv G) q Y2) := by
          subst hY2
          exact H8.out.set_a HQ8.out
        have HBG : Hid (B3 gb (.int .i64 s7) (.bool n7) (.slice A7 m7 c7) Y2) := by
          subst hY2
          have := HGB.out
          exact HBG8.out.set_3 (by omega) _ _ _
        have HRG : Hid (RI Y2 s7 n7 A7 m7 c7 G) := by
          subst hY2
          exact HRG8.out.set_3 H8.out.wa _ _ _
        clear hY2 H8 HBG8 HRG8 HQ8 HB8 p0 p1 p2 f0 f1 f2
        clear w8
        obtain ⟨s5, n5, A5, m5, c5, ⟨y0, y1, y2, -⟩, hR5⟩ := HYF.out.bb
        obtain ⟨x0, x1, x2, x3⟩ := HBG.out
        have HR5 := Lib.hid hR5
        clear hR5 x3
        go_wp2_with fail
        (with_reducible refine (HOV.out _ _ _ _ _ _ _ _ _ _ _ _ HR5.out HRG.out HQB.out).mono ?_)
        rintro e w8 ⟨s9, n9, A9, m9, c9, s10, n10, A10, m10, c10, rfl, hq, hr, hB8⟩
        have HB8 := Lib.hid hB8
        have HQ8 := Lib.hid hq
        have H8 := Lib.hid (HYF.out.keep hB8)
        have HBG8 := Lib.hid (HBG.out.keep hB8)
        have HRG8 := Lib.hid (HRG.out.keep hB8)
        clear y0 y1 y2 x0 x1 x2 hq hr hB8 HR5 HYF HBG HRG
        obtain ⟨⟨o0, o1, o2, p0, p1, p2⟩, f0, f1, f2, -⟩ := H8.out.wb
        go_upto_region 7 with fail
        generalize hY2 : ((w8.setCell _ _).setCell _ _).setCell _ _ = Y2
        have HYF : Hid (MkL w (p.tdiv G) (q.tdiv G) Y2) := by
          subst hY2
          exact H8.out.set_b HQ8.out
        have HBG : Hid (B3 gb (.int .i64 s7) (.bool n7) (.slice A7 m7 c7) Y2) := by
          subst hY2
          have := HGB.out
          exact HBG8.out.set_3 (by omega) _ _ _
        have HRG : Hid (RI Y2 s7 n7 A7 m7 c7 G) := by
          subst hY2
          exact HRG8.out.set_3 H8.out.wb _ _ _
        clear hY2 H8 HBG8 HRG8 HQ8 HB8 p0 p1 p2 f0 f1 f2
        clear w8
        obtain ⟨s5, n5, A5, m5, c5, ⟨y0, y1, y2, -⟩, hR5⟩ := HYF.out.ba
        obtain ⟨s6, n6, A6, m6, c6, ⟨v0, v1, v2, -⟩, hR6⟩ := HYF.out.bb
        obtain ⟨⟨o0, o1, o2, o3, o4, o5, p0, p1, p2, p3, p4, p5⟩, ⟨f0, f1, f2, f3, f4, f5⟩, -⟩ := HYF.out.wc
        have HR5 := Lib.hid hR5
        have HR6 := Lib.hid hR6
        clear hR5 hR6
        go_wp2_with fail
        refine bodyPost_ret (v := .agg #[.int .i64 s5, .bool n5, .slice A5 m5 c5, .int .i64 s6, .bool n6, .slice A6 m6 c6]) (by simp [results, Tryz.results129, go_sem, p0, p1, p2, p3, p4, p5]) rfl ?_
        exact retRt_box0 HYF.out.below (Nat.le_trans (Nat.le_succ _) (Nat.le_succ _)) HR5.out HR6.out HYF.out.wc.2.2
  · have g1 : decide (sgnI z' < 0) = false := by rw [sgn_lt]; exact decide_eq_false g
    have hp := HP.out
    have hq := HQ.out
    rw [if_neg g] at hp hq
    generalize sgnI z' = q2 at g1 ⊢
    have HY : Hid (MkL w p q w1) := by
      show MkL w p q w1
      rw [← hp, ← hq]
      exact HX1.out
    clear hp hq a0 a1 a2 a3' d0 d1 d2 d3 HRI1 HRI2 HBa HBb HB1 HX HX1 HS HM
    revert HY
    generalize w1 = Y
    intro HY
    go_upto_region 3 with fail
    have HPN : Hid (p.natAbs = z.natAbs) := by
      show _ = _
      rw [← HP.out]; split <;> simp
    have HQN : Hid (q.natAbs = z'.natAbs) := by
      show _ = _
      rw [← HQ.out]; split <;> simp
    obtain ⟨s5, n5, A5, m5, c5, ⟨y0, y1, y2, y3⟩, hR5⟩ := HY.out.ba
    obtain ⟨s6, n6, A6, m6, c6, ⟨v0, v1, v2, v3⟩, hR6⟩ := HY.out.bb
    have HR5 := Lib.hid hR5
    have HR6 := Lib.hid hR6
    clear hR5 hR6
    go_wp2_with fail
    (with_reducible refine (HGC.out _ _ _ _ _ _ _ _ _ _ _ _ _ HR5.out HR6.out HPN.out HQN.out).mono ?_)
    rintro e w4 ⟨s7, n7, A7, m7, c7, rfl, hRI7, hB4⟩
    have HY4 := Lib.hid (HY.out.keep hB4)
    have HR5' := Lib.hid (HR5.out.keep hB4)
    have HR6' := Lib.hid (HR6.out.keep hB4)
    have HR7 := Lib.hid hRI7
    clear y0 y1 y2 y3 v0 v1 v2 v3 hRI7 hB4
    go_upto_region 4 with fail
    generalize hZ : w4.alloc _ = Z
    have HZZ : Hid (Below w4.heap.size w4 Z ∧ B3 w4.heap.size (.int .i64 s7) (.bool n7) (.slice A7 m7 c7) Z) := by
      subst hZ
      exact ⟨below_alloc _ _, B3.new _ _ _ _⟩
    clear hZ
    have HYZ := Lib.hid (HY4.out.keep HZZ.out.1)
    have HR5Z := Lib.hid (HR5'.out.keep HZZ.out.1)
    have HR6Z := Lib.hid (HR6'.out.keep HZZ.out.1)
    have HR7Z := Lib.hid (HR7.out.keep HZZ.out.1)
    have HBG := Lib.hid HZZ.out.2
    obtain ⟨x0, x1, x2, x3⟩ := HBG.out
    have HGB := Lib.hid HY4.out.wc.2.2.lt
    clear HY4 HR5' HR6' HR7 HZZ HR5 HR6 HY
    generalize w4.heap.size = gb at HGB HBG x0 x1 x2 x3 ⊢
    clear w4
    go_region_held3 (fun w' => w'.cell? ⟨gb, 0, none⟩ = some (.int .i64 s7) ∧ w'.cell? ⟨gb, 1, none⟩ = some (.bool n7) ∧ w'.cell? ⟨gb, 2, none⟩ = some (.slice A7 m7 c7)) (simp [go_sem, *])
      (first
        | (go_at_call 70; (with_reducible refine (HOF.out _).mono ?_); rintro e w5 ⟨s8, n8, A8, m8, c8, rfl, hRI8, hB5⟩; (have hB5 : Below Z.heap.size Z w5 := by first | exact hB5 | exact below_undrew' hB5); have C5 := (bcell hB5).1; have HB5 := Lib.hid hB5; have HR8 := Lib.hid hRI8; clear hRI8 hB5)
        | (go_at_call 71; (with_reducible refine (HCM.out _ _ _ _ _ _ _ _ _ _ _ (by first | exact HR7Z.out.keep HB5.out | exact (HR7Z.out.keep HB5.out).drew) (by first | exact HR8.out | exact HR8.out.drew)).mono ?_); rintro e w6 ⟨rfl, hB6⟩; (have hB6 : Below w5.heap.size w5 w6 := by first | exact hB6 | exact below_undrew' hB6); have HB6 := Lib.hid (stepB HB5.out hB6); clear C5; have C6 := (bcell HB6.out).1; clear hB6))
    have HYF := Lib.hid (HYZ.out.keep HB6.out)
    have HRG := Lib.hid (HR7Z.out.keep HB6.out)
    have HBGn := Lib.hid (HBG.out.keep HB6.out)
    clear hB5 HB5 HR8 hB6 HB6 C6 x0 x1 x2 x3 HYZ HR5Z HR6Z HR7Z HBG
    have HBG := HBGn
    clear HBGn
    have HPB : Hid (p.natAbs < Bs ^ K) := by
      show _ < _
      rw [HPN.out]
      exact HZ.out
    have HQB : Hid (q.natAbs < Bs ^ K) := by
      show _ < _
      rw [HQN.out]
      exact HZ'.out
    by_cases hG1 : G = 1
    · have g2 : (sgnI ((G : Int) - 1) != 0) = false := by rw [hG1]; rfl
      have ep : p.tdiv (G : Int) = p := by rw [hG1]; exact Int.tdiv_one p
      have eq : q.tdiv (G : Int) = q := by rw [hG1]; exact Int.tdiv_one q
      have HEP := Lib.hid ep
      have HEQ := Lib.hid eq
      generalize sgnI ((G : Int) - 1) = q19 at g2 ⊢
      clear hG1 ep eq
      go_upto_region 7 with fail
      obtain ⟨s5, n5, A5, m5, c5, ⟨y0, y1, y2, -⟩, hR5⟩ := HYF.out.ba
      obtain ⟨s6, n6, A6, m6, c6, ⟨v0, v1, v2, -⟩, hR6⟩ := HYF.out.bb
      obtain ⟨⟨o0, o1, o2, o3, o4, o5, p0, p1, p2, p3, p4, p5⟩, ⟨f0, f1, f2, f3, f4, f5⟩, -⟩ := HYF.out.wc
      have HR5 := Lib.hid hR5
      have HR6 := Lib.hid hR6
      clear hR5 hR6
      go_wp2_with fail
      refine bodyPost_ret (v := .agg #[.int .i64 s5, .bool n5, .slice A5 m5 c5, .int .i64 s6, .bool n6, .slice A6 m6 c6]) (by simp [results, Tryz.results129, go_sem, p0, p1, p2, p3, p4, p5]) rfl ?_
      rw [HEP.out, HEQ.out]
      exact retRt_box0 HYF.out.below (Nat.le_trans (Nat.le_succ _) (Nat.le_succ _)) HR5.out HR6.out HYF.out.wc.2.2
    · have g2 : (sgnI ((G : Int) - 1) != 0) = true := by
        rw [bne_iff_ne]
        unfold sgnI
        split
        · decide
        · rw [if_neg (by omega)]; decide
      generalize sgnI ((G : Int) - 1) = q19 at g2 ⊢
      clear hG1
      go_upto_region 5 with fail
      obtain ⟨s5, n5, A5, m5, c5, ⟨y0, y1, y2, -⟩, hR5⟩ := HYF.out.ba
      obtain ⟨x0, x1, x2, x3⟩ := HBG.out
      have HR5 := Lib.hid hR5
      clear hR5 x3
      go_wp2_with fail
      (with_reducible refine (HOV.out _ _ _ _ _ _ _ _ _ _ _ _ HR5.out HRG.out HPB.out).mono ?_)
      rintro e w8 ⟨s9, n9, A9, m9, c9, s10, n10, A10, m10, c10, rfl, hq, hr, hB8⟩
      have HB8 := Lib.hid hB8
      have HQ8 := Lib.hid hq
      have H8 := Lib.hid (HYF.out.keep hB8)
      have HBG8 := Lib.hid (HBG.out.keep hB8)
      have HRG8 := Lib.hid (HRG.out.keep hB8)
      clear y0 y1 y2 x0 x1 x2 hq hr hB8 HR5 HYF HBG HRG
      obtain ⟨⟨o0, o1, o2, p0, p1, p2⟩, f0, f1, f2, -⟩ := H8.out.wa
      go_upto_region 6 with fail
      generalize hY2 : ((w8.setCell _ _).setCell _ _).setCell _ _ = Y2
      have HYF : Hid (MkL w (p.tdiv G) q Y2) := by
        subst hY2
        exact H8.out.set_a HQ8.out
      have HBG : Hid (B3 gb (.int .i64 s7) (.bool n7) (.slice A7 m7 c7) Y2) := by
        subst hY2
        have := HGB.out
        exact HBG8.out.set_3 (by omega) _ _ _
      have HRG : Hid (RI Y2 s7 n7 A7 m7 c7 G) := by
        subst hY2
        exact HRG8.out.set_3 H8.out.wa _ _ _
      clear hY2 H8 HBG8 HRG8 HQ8 HB8 p0 p1 p2 f0 f1 f2
      clear w8
      obtain ⟨s5, n5, A5, m5, c5, ⟨y0, y1, y2, -⟩, hR5⟩ := HYF.out.bb
      obtain ⟨x0, x1, x2, x3⟩ := HBG.out
      have HR5 := Lib.hid hR5
      clear hR5 x3
      go_wp2_with fail
      (with_reducible refine (HOV.out _ _ _ _ _ _ _ _ _ _ _ _ HR5.out HRG.out HQB.out).mono ?_)
      rintro e w8 ⟨s9, n9, A9, m9, c9, s10, n10, A10, m10, c10, rfl, hq, hr, hB8⟩
      have HB8 := Lib.hid hB8
      have HQ8 := Lib.hid hq
      have H8 := Lib.hid (HYF.out.keep hB8)
      have HBG8 := Lib.hid (HBG.out.keep hB8)
      have HRG8 := Lib.hid (HRG.out.keep hB8)
      clear y0 y1 y2 x0 x1 x2 hq hr hB8 HR5 HYF HBG HRG
      obtain ⟨⟨o0, o1, o2, p0, p1, p2⟩, f0, f1, f2, -⟩ := H8.out.wb
      go_upto_region 7 with fail
      generalize hY2 : ((w8.setCell _ _).setCell _ _).setCell _ _ = Y2
      have HYF : Hid (MkL w (p.tdiv G) (q.tdiv G) Y2) := by
        subst hY2
        exact H8.out.set_b HQ8.out
      have HBG : Hid (B3 gb (.int .i64 s7) (.bool n7) (.slice A7 m7 c7) Y2) := by
        subst hY2
        have := HGB.out
        exact HBG8.out.set_3 (by omega) _ _ _
      have HRG : Hid (RI Y2 s7 n7 A7 m7 c7 G) := by
        subst hY2
        exact HRG8.out.set_3 H8.out.wb _ _ _
      clear hY2 H8 HBG8 HRG8 HQ8 HB8 p0 p1 p2 f0 f1 f2
      clear w8
      obtain ⟨s5, n5, A5, m5, c5, ⟨y0, y1, y2, -⟩, hR5⟩ := HYF.out.ba
      obtain ⟨s6, n6, A6, m6, c6, ⟨v0, v1, v2, -⟩, hR6⟩ := HYF.out.bb
      obtain ⟨⟨o0, o1, o2, o3, o4, o5, p0, p1, p2, p3, p4, p5⟩, ⟨f0, f1, f2, f3, f4, f5⟩, -⟩ := HYF.out.wc
      have HR5 := Lib.hid hR5
      have HR6 := Lib.hid hR6
      clear hR5 hR6
      go_wp2_with fail
      refine bodyPost_ret (v := .agg #[.int .i64 s5, .bool n5, .slice A5 m5 c5, .int .i64 s6, .bool n6, .slice A6 m6 c6]) (by simp [results, Tryz.results129, go_sem, p0, p1, p2, p3, p4, p5]) rfl ?_
      exact retRt_box0 HYF.out.below (Nat.le_trans (Nat.le_succ _) (Nat.le_succ _)) HR5.out HR6.out HYF.out.wc.2.2
end Go.Proofs.YtmfnpipmbpnfbaaGreatDoor
