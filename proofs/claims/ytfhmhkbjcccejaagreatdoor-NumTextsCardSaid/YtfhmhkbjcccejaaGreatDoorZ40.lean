/- Powers, of the reference. Values of package exact, what functions return, boxes of two and four cells. -/
import Derived.Test.YtfhmhkbjcccejaaGreatDoorZ39
import Derived.Test.YtfhmhkbjcccejaaGreatDoorZ38

namespace Go.Proofs.YtfhmhkbjcccejaaGreatDoor
open Go.RowKit

theorem B2n.set_3 {g k : Nat} {a b : Value} {w : World} (h : B2n g a b w) (hk : g ≠ k) (p q r : Value) : B2n g a b (set3 w k p q r) := by
  obtain ⟨h1, h2, h4⟩ := h
  have e : (set3 w k p q r).heap[g]? = w.heap[g]? := ((Below.heap_setCell _ _ _ _ hk).trans (Below.heap_setCell _ _ _ _ hk)).trans (Below.heap_setCell _ _ _ _ hk)
  exact ⟨(World.cell?_of_block (w := w) (a := ⟨g, 0, none⟩) e).trans h1, (World.cell?_of_block (w := w) (a := ⟨g, 1, none⟩) e).trans h2, Nat.lt_of_lt_of_le h4 (Nat.le_trans (Nat.le_trans (size_set _ _ _ _) (size_set _ _ _ _)) (size_set _ _ _ _))⟩
theorem Wr.set_3 {g k T : Nat} {w : World} (h : Wr g T w) (hk : g ≠ k) (p q r : Value) : Wr g T (set3 w k p q r) := ((h.far hk _ _).far hk _ _).far hk _ _

/-- What stays while a power is made: the number's box, the result's box, the boxes of the two products. -/
structure PwF (w : World) (gp gq : Nat) (t l : Int) (wr : World) : Prop where
  ord : w.heap.size + 1 < gp ∧ gp < gq
  below : Below w.heap.size w wr
  ba : B2n w.heap.size (.int .i64 t) (.int .i64 l) wr
  wn : Wr (w.heap.size + 1) 23 wr
  wp : W3 gp wr
  wq : W3 gq wr
theorem PwF.keep {w : World} {gp gq : Nat} {t l : Int} {wx wy : World} (h : PwF w gp gq t l wx) (hb : Below wx.heap.size wx wy) : PwF w gp gq t l wy :=
  ⟨h.ord, h.below.trans (hb.mono h.below.size), h.ba.keep hb, h.wn.keep hb, h.wp.keep hb, h.wq.keep hb⟩
theorem PwF.set_p {w : World} {gp gq : Nat} {t l : Int} {wx : World} (h : PwF w gp gq t l wx) (a b c : Value) : PwF w gp gq t l (set3 wx gp a b c) := by
  have := h.ord
  exact ⟨h.ord, set3_below h.below (by omega) _ _ _, h.ba.set_3 (by omega) _ _ _, h.wn.set_3 (by omega) _ _ _, (h.wp.set _ _ _).2, h.wq.set_3 (by omega) _ _ _⟩
theorem PwF.set_q {w : World} {gp gq : Nat} {t l : Int} {wx : World} (h : PwF w gp gq t l wx) (a b c : Value) : PwF w gp gq t l (set3 wx gq a b c) := by
  have := h.ord
  exact ⟨h.ord, set3_below h.below (by omega) _ _ _, h.ba.set_3 (by omega) _ _ _, h.wn.set_3 (by omega) _ _ _, h.wp.set_3 (by omega) _ _ _, (h.wq.set _ _ _).2⟩
/-- While the two products of one round are made. -/
structure Pw8 (w : World) (gp gq : Nat) (t l P Q s1 s2 : Int) (n1 n2 : Bool) (A1 A2 : Option Addr) (m1 c1 m2 c2 : Nat) (wx : World) : Prop where
  fr : PwF w gp gq t l wx
  bp : B3 gp (.int .i64 s1) (.bool n1) (.slice A1 m1 c1) wx
  bq : B3 gq (.int .i64 s2) (.bool n2) (.slice A2 m2 c2) wx
  rp : RI wx s1 n1 A1 m1 c1 P
  rq : RI wx s2 n2 A2 m2 c2 Q
theorem Pw8.keep {w : World} {gp gq : Nat} {t l P Q s1 s2 : Int} {n1 n2 : Bool} {A1 A2 : Option Addr} {m1 c1 m2 c2 : Nat} (wx wy : World) (h : Pw8 w gp gq t l P Q s1 s2 n1 n2 A1 A2 m1 c1 m2 c2 wx) (hb : Below wx.heap.size wx wy) : Pw8 w gp gq t l P Q s1 s2 n1 n2 A1 A2 m1 c1 m2 c2 wy :=
  ⟨h.fr.keep hb, h.bp.keep hb, h.bq.keep hb, h.rp.keep hb, h.rq.keep hb⟩
/-- Between two rounds. -/
structure PwS (w : World) (gp gq : Nat) (t l P Q : Int) (wr : World) : Prop where
  fr : PwF w gp gq t l wr
  bp : BI wr gp P
  bq : BI wr gq Q
theorem PwS.keep {w : World} {gp gq : Nat} {t l P Q : Int} {wx wy : World} (h : PwS w gp gq t l P Q wx) (hb : Below wx.heap.size wx wy) : PwS w gp gq t l P Q wy := ⟨h.fr.keep hb, h.bp.keep hb, h.bq.keep hb⟩

end Go.Proofs.YtfhmhkbjcccejaaGreatDoor

namespace Go.Proofs.YtfhmhkbjcccejaaGreatDoor
open Go.RowKit

/-- A value that is an integer of package exact. -/
def PV (w : World) (v : Value) (z : Int) : Prop := ∃ b A n c, v = .agg #[.bool b, .slice A n c] ∧ Hid (b = decide (z < 0)) ∧ D w (.slice A n c) z.natAbs
theorem PV.keep {w w' : World} {v : Value} {z : Int} (h : PV w v z) (hb : Below w.heap.size w w') : PV w' v z := by
  obtain ⟨b, A, n, c, e, h1, h2⟩ := h
  exact ⟨b, A, n, c, e, h1, h2.keep hb⟩
/-- A value that is a fraction of package exact. -/
def QV (w : World) (v : Value) (x : Rat) : Prop := ∃ b A n c B m d, v = .agg #[.bool b, .slice A n c, .bool false, .slice B m d] ∧ Q w b (.slice A n c) (.slice B m d) x
theorem QV.keep {w w' : World} {v : Value} {x : Rat} (h : QV w v x) (hb : Below w.heap.size w w') : QV w' v x := by
  obtain ⟨b, A, n, c, B, m, d, e, h1⟩ := h
  exact ⟨b, A, n, c, B, m, d, e, h1.keep hb⟩
/-- What is known of a value. -/
inductive Sq where
  | val (v : Value)
  | pint (z : Int)
  | prat (x : Rat)
def Sq.ok : Sq → Value → World → Prop
  | .val v, u, _ => u = v
  | .pint z, u, w => PV w u z
  | .prat x, u, w => QV w u x
theorem Sq.keep {s : Sq} {u : Value} {w w' : World} (h : s.ok u w) (hb : Below w.heap.size w w') : s.ok u w' := by
  cases s with
  | val v => exact h
  | pint z => exact PV.keep h hb
  | prat x => exact QV.keep h hb
def Sql (L : List Sq) (i : Nat) (u : Value) (w : World) : Prop := (L.getD i (.val (.int .i64 0))).ok u w
theorem Sql.keep {L : List Sq} (i : Nat) (u : Value) (w w' : World) (hb : Below w.heap.size w w') (h : Sql L i u w) : Sql L i u w' := Sq.keep h hb
/-- A value of which this is known is returned. -/
def RetW (s : Sq) (w : World) (e : Ending) (w' : World) : Prop := ∃ u, e = .returned u ∧ s.ok u w' ∧ Below w.heap.size w w'
theorem RetJ.w {z : Int} {w : World} {e : Ending} {w' : World} (h : RetJ z w e w') : RetW (.pint z) w e w' := by
  obtain ⟨A, n, c, rfl, h1, h2⟩ := h
  exact ⟨_, rfl, ⟨_, A, n, c, rfl, rfl, h1⟩, h2⟩
theorem sgn_not (z : Int) : sgn (!decide (z < 0)) z.natAbs = -z := by
  unfold sgn
  by_cases h : z < 0
  · rw [decide_eq_true h]; simp; omega
  · rw [decide_eq_false h]; simp; omega
theorem sgn_self (z : Int) : sgn (decide (z < 0)) z.natAbs = z := by
  unfold sgn
  by_cases h : z < 0
  · rw [decide_eq_true h]; simp; omega
  · rw [decide_eq_false h]; simp; omega
theorem sgn_tdiv (z : Int) (G : Nat) : sgn (decide (z < 0)) (z.natAbs / G) = z.tdiv (G : Int) := by
  unfold sgn
  by_cases h : z < 0
  · rw [decide_eq_true h]
    obtain ⟨n, rfl⟩ : ∃ n : Nat, z = -(n : Int) := ⟨z.natAbs, by omega⟩
    rw [Int.neg_tdiv, Int.natAbs_neg, Int.natAbs_natCast]
    simp
  · rw [decide_eq_false h]
    obtain ⟨n, rfl⟩ : ∃ n : Nat, z = (n : Int) := ⟨z.natAbs, by omega⟩
    rw [Int.natAbs_natCast]
    simp
theorem pv_neg {u : Value} {z : Int} {w : World} (h : PV w u z) (hz : z.natAbs < W ^ 3) : Calls Tryz.prog 49 #[u] w (RetW (.pint (-z)) w) := by
  obtain ⟨b, A, n, c, rfl, hb, h1⟩ := h
  have := neg_any b A n c _ w h1 (by have := h1.len hz; omega)
  rw [hb.out, sgn_not] at this
  rw [hb.out]
  exact this.mono fun _ _ => RetJ.w
theorem pv_divisor {u u' : Value} {z z' : Int} {w : World} (h : PV w u z) (h' : PV w u' z') (hz : z.natAbs < W ^ 3) (hz' : z'.natAbs < W ^ 3) (hs : z.natAbs < 18446744073709551616 ∨ z'.natAbs < 18446744073709551616) :
    Calls Tryz.prog 50 #[u, u'] w (RetW (.pint (Nat.gcd z.natAbs z'.natAbs : Nat)) w) := by
  obtain ⟨b, A, n, c, rfl, -, h1⟩ := h
  obtain ⟨b', A', n', c', rfl, -, h2⟩ := h'
  exact (divisorI_any b b' A A' n n' c c' _ _ w h1 h2 (by have := h1.len hz; omega) (by have := h2.len hz'; omega) hs).mono fun _ _ => RetJ.w
theorem pv_over {u u' : Value} {z : Int} {G : Nat} {w : World} (h : PV w u z) (h' : PV w u' (G : Int)) (hz : z.natAbs < W ^ 3) (hG : 0 < G) : Calls Tryz.prog 51 #[u, u'] w (RetW (.pint (z.tdiv (G : Int))) w) := by
  obtain ⟨b, A, n, c, rfl, hb, h1⟩ := h
  obtain ⟨b', A', n', c', rfl, hb', h2⟩ := h'
  have e : b' = false := by rw [hb'.out]; exact decide_eq_false (by omega)
  rw [e]
  rw [Int.natAbs_natCast] at h2
  have := over_any b A A' n n' c c' _ _ w h1 h2 (by have := h1.len hz; omega) hG (by rw [hb.out, sgn_self])
  rw [hb.out, sgn_tdiv] at this
  rw [hb.out]
  exact this.mono fun _ _ => RetJ.w
theorem pv_whole (z : Int) (w : World) (h0 : -9223372036854775808 ≤ z) (h1 : z ≤ 9223372036854775807) : Calls Tryz.prog 64 #[.int .i64 z] w (RetW (.pint z) w) := (whole_any z w h0 h1).mono fun _ _ => RetJ.w
theorem qv_num {u : Value} {x : Rat} {w : World} (h : QV w u x) (hx : x.num.natAbs < W ^ 3 ∧ x.den < W ^ 3) : Calls Tryz.prog 22 #[u] w (Rt (outT x).1 (outT x).2.1 (outT x).2.2 w) := by
  obtain ⟨b, A, n, c, B, m, d, rfl, hQ⟩ := h
  have := num_any b A B n c m d x w hQ (by have := hQ.2.1.len hx.1; omega) (by have := hQ.2.2.len hx.2; omega)
  rw [outN_val] at this
  exact this

/-- The store of two cells. -/
def st2 (w : World) (g : Nat) (a b : Value) : World := (w.setCell ⟨g, 0, none⟩ a).setCell ⟨g, 1, none⟩ b
theorem Wr.put {g T : Nat} {w : World} (h : Wr g T w) (a b : Value) : B2n g a b (st2 w g a b) ∧ Wr g T (st2 w g a b) := by
  obtain ⟨⟨p, q, h1, h2⟩, f1, f2, hx⟩ := h
  have hz := hx.lt
  have hb : B2n g a b (st2 w g a b) := ⟨by simp [st2, go_sem, h1], by simp [st2, go_sem, h2], Nat.lt_of_lt_of_le hz (Nat.le_trans (size_set _ _ _ _) (size_set _ _ _ _))⟩
  exact ⟨hb, ⟨a, b, hb.1, hb.2.1⟩, by simp [st2, go_sem, f1], by simp [st2, go_sem, f2], (hx.set _ _ _).set _ _ _⟩
theorem B2n.st2 {g k : Nat} {a b : Value} {w : World} (h : B2n g a b w) (hk : g ≠ k) (p q : Value) : B2n g a b (st2 w k p q) := by
  obtain ⟨h1, h2, h4⟩ := h
  have e : (Go.Proofs.YtfhmhkbjcccejaaGreatDoor.st2 w k p q).heap[g]? = w.heap[g]? := (Below.heap_setCell _ _ _ _ hk).trans (Below.heap_setCell _ _ _ _ hk)
  exact ⟨(World.cell?_of_block (w := w) (a := ⟨g, 0, none⟩) e).trans h1, (World.cell?_of_block (w := w) (a := ⟨g, 1, none⟩) e).trans h2, Nat.lt_of_lt_of_le h4 (Nat.le_trans (size_set _ _ _ _) (size_set _ _ _ _))⟩
theorem Wr.st2 {g k T : Nat} {w : World} (h : Wr g T w) (hk : g ≠ k) (p q : Value) : Wr g T (st2 w k p q) := (h.far hk _ _).far hk _ _
theorem Wr4.st2 {g k : Nat} {w : World} (h : Wr4 g 47 w) (hk : g ≠ k) (p q : Value) : Wr4 g 47 (st2 w k p q) := (h.far hk _ _).far hk _ _
theorem st2_below {base : Nat} {X w : World} (h : Below base X w) {g : Nat} (hg : base ≤ g) (a b : Value) : Below base X (st2 w g a b) := (h.setCell hg _).setCell hg _
theorem PV.st2 {w : World} {v : Value} {z : Int} (h : PV w v z) {g : Nat} (hw : Wr g 45 w) (p q : Value) : PV (st2 w g p q) v z := by
  obtain ⟨b, A, n, c, e, h1, h2⟩ := h
  exact ⟨b, A, n, c, e, h1, (h2.set hw.2.2.2 (by decide) _ _).set (hw.2.2.2.set _ _ _) (by decide) _ _⟩
/-- A box that holds an integer. -/
def BP (w : World) (g : Nat) (z : Int) : Prop := ∃ b A n c, B2n g (.bool b) (.slice A n c) w ∧ PV w (.agg #[.bool b, .slice A n c]) z
theorem BP.keep {w w' : World} {g : Nat} {z : Int} (h : BP w g z) (hb : Below w.heap.size w w') : BP w' g z := by
  obtain ⟨b, A, n, c, h1, h2⟩ := h
  exact ⟨b, A, n, c, h1.keep hb, h2.keep hb⟩
theorem BP.st2 {w : World} {g k : Nat} {z : Int} (h : BP w g z) (hk : g ≠ k) (hw : Wr k 45 w) (p q : Value) : BP (st2 w k p q) g z := by
  obtain ⟨b, A, n, c, h1, h2⟩ := h
  exact ⟨b, A, n, c, h1.st2 hk p q, h2.st2 hw p q⟩
theorem BP.put {w : World} {g : Nat} {z : Int} {b : Bool} {A : Option Addr} {n c : Nat} (hw : Wr g 45 w) (h : PV w (.agg #[.bool b, .slice A n c]) z) : BP (Go.Proofs.YtfhmhkbjcccejaaGreatDoor.st2 w g (.bool b) (.slice A n c)) g z :=
  ⟨b, A, n, c, (hw.put _ _).1, h.st2 hw _ _⟩

/-- The state of Ratio. -/
structure RtF (w wr : World) : Prop where
  below : Below w.heap.size w wr
  wa : Wr w.heap.size 45 wr
  wb : Wr (w.heap.size + 1) 45 wr
  wc : Wr4 (w.heap.size + 1 + 1) 47 wr
theorem RtF.keep {w wx wy : World} (h : RtF w wx) (hb : Below wx.heap.size wx wy) : RtF w wy :=
  ⟨h.below.trans (hb.mono h.below.size), h.wa.keep hb, h.wb.keep hb, h.wc.keep hb⟩
theorem RtF.set_a {w wx : World} (h : RtF w wx) (a b : Value) : RtF w (st2 wx w.heap.size a b) :=
  ⟨st2_below h.below (Nat.le_refl _) _ _, (h.wa.put _ _).2, h.wb.st2 (by omega) _ _, h.wc.st2 (by omega) _ _⟩
theorem RtF.set_b {w wx : World} (h : RtF w wx) (a b : Value) : RtF w (st2 wx (w.heap.size + 1) a b) :=
  ⟨st2_below h.below (Nat.le_succ _) _ _, h.wa.st2 (by omega) _ _, (h.wb.put _ _).2, h.wc.st2 (by omega) _ _⟩
structure RtS (w : World) (p q : Int) (wr : World) : Prop where
  fr : RtF w wr
  ba : BP wr w.heap.size p
  bb : BP wr (w.heap.size + 1) q
theorem RtS.keep {w wx wy : World} {p q : Int} (h : RtS w p q wx) (hb : Below wx.heap.size wx wy) : RtS w p q wy := ⟨h.fr.keep hb, h.ba.keep hb, h.bb.keep hb⟩
/-- While the signs are turned. -/
structure Rt2 (w : World) (z z' : Int) (b1 b2 : Bool) (A1 A2 : Option Addr) (m1 c1 m2 c2 : Nat) (wx : World) : Prop where
  fr : RtF w wx
  bp : B2n w.heap.size (.bool b1) (.slice A1 m1 c1) wx
  bq : B2n (w.heap.size + 1) (.bool b2) (.slice A2 m2 c2) wx
  rp : PV wx (.agg #[.bool b1, .slice A1 m1 c1]) z
  rq : PV wx (.agg #[.bool b2, .slice A2 m2 c2]) z'
theorem Rt2.keep {w : World} {z z' : Int} {b1 b2 : Bool} {A1 A2 : Option Addr} {m1 c1 m2 c2 : Nat} (wx wy : World) (h : Rt2 w z z' b1 b2 A1 A2 m1 c1 m2 c2 wx) (hb : Below wx.heap.size wx wy) : Rt2 w z z' b1 b2 A1 A2 m1 c1 m2 c2 wy :=
  ⟨h.fr.keep hb, h.bp.keep hb, h.bq.keep hb, h.rp.keep hb, h.rq.keep hb⟩
/-- While the result is made. -/
structure Rt4 (w : World) (gc : Nat) (p q G : Int) (b1 b2 b3 : Bool) (A1 A2 A3 : Option Addr) (m1 c1 m2 c2 m3 c3 : Nat) (wx : World) : Prop where
  fr : RtF w wx
  bp : B2n w.heap.size (.bool b1) (.slice A1 m1 c1) wx
  bq : B2n (w.heap.size + 1) (.bool b2) (.slice A2 m2 c2) wx
  bg : B2n gc (.bool b3) (.slice A3 m3 c3) wx
  rp : PV wx (.agg #[.bool b1, .slice A1 m1 c1]) p
  rq : PV wx (.agg #[.bool b2, .slice A2 m2 c2]) q
  rg : PV wx (.agg #[.bool b3, .slice A3 m3 c3]) G
theorem Rt4.keep {w : World} {gc : Nat} {p q G : Int} {b1 b2 b3 : Bool} {A1 A2 A3 : Option Addr} {m1 c1 m2 c2 m3 c3 : Nat} (wx wy : World) (h : Rt4 w gc p q G b1 b2 b3 A1 A2 A3 m1 c1 m2 c2 m3 c3 wx) (hb : Below wx.heap.size wx wy) : Rt4 w gc p q G b1 b2 b3 A1 A2 A3 m1 c1 m2 c2 m3 c3 wy :=
  ⟨h.fr.keep hb, h.bp.keep hb, h.bq.keep hb, h.bg.keep hb, h.rp.keep hb, h.rq.keep hb, h.rg.keep hb⟩
/-- The result lies in its box. -/
def EndQ (w : World) (g : Nat) (x : Rat) (wf : World) : Prop := ∃ b A n c B m d, B4 g (.bool b) (.slice A n c) (.bool false) (.slice B m d) wf ∧ Q wf b (.slice A n c) (.slice B m d) x ∧ Below w.heap.size w wf
def st4 (w : World) (g : Nat) (a b c d : Value) : World := (((w.setCell ⟨g, 0, none⟩ a).setCell ⟨g, 1, none⟩ b).setCell ⟨g, 2, none⟩ c).setCell ⟨g, 3, none⟩ d
theorem endQ_store {w wx : World} {g : Nat} {x : Rat} {b : Bool} {A B : Option Addr} {n c m d : Nat} (hB : Below w.heap.size w wx) (hg : w.heap.size ≤ g) (hW : Wr4 g 47 wx) (h : Q wx b (.slice A n c) (.slice B m d) x) : EndQ w g x (st4 wx g (.bool b) (.slice A n c) (.bool false) (.slice B m d)) := by
  have hx := hW.bx
  exact ⟨b, A, n, c, B, m, d, (hW.set _ _ _ _).1, ⟨h.1, (((h.2.1.set hx (by decide) _ _).set (hx.set _ _ _) (by decide) _ _).set ((hx.set _ _ _).set _ _ _) (by decide) _ _).set (((hx.set _ _ _).set _ _ _).set _ _ _) (by decide) _ _,
    (((h.2.2.set hx (by decide) _ _).set (hx.set _ _ _) (by decide) _ _).set ((hx.set _ _ _).set _ _ _) (by decide) _ _).set (((hx.set _ _ _).set _ _ _).set _ _ _) (by decide) _ _⟩, (((hB.setCell hg _).setCell hg _).setCell hg _).setCell hg _⟩

end Go.Proofs.YtfhmhkbjcccejaaGreatDoor
