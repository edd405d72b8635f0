/- Values of package exact, what functions return, boxes of two and four cells. exact.Ratio. num.Make. diceboxlaw01.NumMakes: the walk, and the law for all arguments. -/
import Derived.Test.YtjoanclnaeephaaMPb
import Derived.Test.YtjoanclnaeephaaMRe

namespace Go.Proofs.Ytjoanclnaeephaa
open Go.RowKit

/-- A value that is an integer of package exact. -/
def PV (w : World) (v : Value) (z : Int) : Prop := ∃ b A n c, v = .agg #[.bool b, .slice A n c] ∧ Hid (b = decide (z < 0)) ∧ D w (.slice A n c) z.natAbs
theorem PV.keep {w w' : World} {v : Value} {z : Int} (h : PV w v z) (hb : Below w.heap.size w w') : PV w' v z := by
  obtain ⟨b, A, n, c, e, h1, h2⟩ := h
  exact ⟨b, A, n, c, e, h1, h2.keep hb⟩
/-- A value that is a fraction of package exact. -/
def QV (w : World) (v : Value) (x : Rat) : Prop := ∃ b A n c B m d, v = .agg #[.bool b, .slice A n c, .bool false, .slice B m d] ∧ Q w b (.slice A n c) (.slice B m d) x
theorem QV.keep {w w' : World} {v : Value} {x : Rat} (h : QV w v x) (hb : Below w.heap.size w w') : QV w' v x := by
  obtain ⟨b, A, n, c, B, m, d, e, h1⟩ := h
  exact ⟨b, A, n, c, B, m, d, e, h1.keep hb⟩
/-- What is known of a value. -/
inductive Sq where
  | val (v : Value)
  | pint (z : Int)
  | prat (x : Rat)
def Sq.ok : Sq → Value → World → Prop
  | .val v, u, _ => u = v
  | .pint z, u, w => PV w u z
  | .prat x, u, w => QV w u x
theorem Sq.keep {s : Sq} {u : Value} {w w' : World} (h : s.ok u w) (hb : Below w.heap.size w w') : s.ok u w' := by
  cases s with
  | val v => exact h
  | pint z => exact PV.keep h hb
  | prat x => exact QV.keep h hb
def Sql (L : List Sq) (i : Nat) (u : Value) (w : World) : Prop := (L.getD i (.val (.int .i64 0))).ok u w
theorem Sql.keep {L : List Sq} (i : Nat) (u : Value) (w w' : World) (hb : Below w.heap.size w w') (h : Sql L i u w) : Sql L i u w' := Sq.keep h hb
/-- A value of which this is known is returned. -/
def RetW (s : Sq) (w : World) (e : Ending) (w' : World) : Prop := ∃ u, e = .returned u ∧ s.ok u w' ∧ Below w.heap.size w w'
theorem RetJ.w {z : Int} {w : World} {e : Ending} {w' : World} (h : RetJ z w e w') : RetW (.pint z) w e w' := by
  obtain ⟨A, n, c, rfl, h1, h2⟩ := h
  exact ⟨_, rfl, ⟨_, A, n, c, rfl, rfl, h1⟩, h2⟩
theorem sgn_not (z : Int) : sgn (!decide (z < 0)) z.natAbs = -z := by
  unfold sgn
  by_cases h : z < 0
  · rw [decide_eq_true h]; simp; omega
  · rw [decide_eq_false h]; simp; omega
theorem sgn_self (z : Int) : sgn (decide (z < 0)) z.natAbs = z := by
  unfold sgn
  by_cases h : z < 0
  · rw [decide_eq_true h]; simp; omega
  · rw [decide_eq_false h]; simp; omega
theorem sgn_tdiv (z : Int) (G : Nat) : sgn (decide (z < 0)) (z.natAbs / G) = z.tdiv (G : Int) := by
  unfold sgn
  by_cases h : z < 0
  · rw [decide_eq_true h]
    obtain ⟨n, rfl⟩ : ∃ n : Nat, z = -(n : Int) := ⟨z.natAbs, by omega⟩
    rw [Int.neg_tdiv, Int.natAbs_neg, Int.natAbs_natCast]
    simp
  · rw [decide_eq_false h]
    obtain ⟨n, rfl⟩ : ∃ n : Nat, z = (n : Int) := ⟨z.natAbs, by omega⟩
    rw [Int.natAbs_natCast]
    simp
theorem pv_neg {u : Value} {z : Int} {w : World} (h : PV w u z) (hz : z.natAbs < W ^ 3) : Calls Try.prog 65 #[u] w (RetW (.pint (-z)) w) := by
  obtain ⟨b, A, n, c, rfl, hb, h1⟩ := h
  have := neg_any b A n c _ w h1 (by have := h1.len hz; omega)
  rw [hb.out, sgn_not] at this
  rw [hb.out]
  exact this.mono fun _ _ => RetJ.w
theorem pv_divisor {u u' : Value} {z z' : Int} {w : World} (h : PV w u z) (h' : PV w u' z') (hz : z.natAbs < W ^ 3) (hz' : z'.natAbs < W ^ 3) (hs : z.natAbs < 18446744073709551616 ∨ z'.natAbs < 18446744073709551616) :
    Calls Try.prog 66 #[u, u'] w (RetW (.pint (Nat.gcd z.natAbs z'.natAbs : Nat)) w) := by
  obtain ⟨b, A, n, c, rfl, -, h1⟩ := h
  obtain ⟨b', A', n', c', rfl, -, h2⟩ := h'
  exact (divisorI_any b b' A A' n n' c c' _ _ w h1 h2 (by have := h1.len hz; omega) (by have := h2.len hz'; omega) hs).mono fun _ _ => RetJ.w
theorem pv_over {u u' : Value} {z : Int} {G : Nat} {w : World} (h : PV w u z) (h' : PV w u' (G : Int)) (hz : z.natAbs < W ^ 3) (hG : 0 < G) : Calls Try.prog 67 #[u, u'] w (RetW (.pint (z.tdiv (G : Int))) w) := by
  obtain ⟨b, A, n, c, rfl, hb, h1⟩ := h
  obtain ⟨b', A', n', c', rfl, hb', h2⟩ := h'
  have e : b' = false := by rw [hb'.out]; exact decide_eq_false (by omega)
  rw [e]
  rw [Int.natAbs_natCast] at h2
  have := over_any b A A' n n' c c' _ _ w h1 h2 (by have := h1.len hz; omega) hG (by rw [hb.out, sgn_self])
  rw [hb.out, sgn_tdiv] at this
  rw [hb.out]
  exact this.mono fun _ _ => RetJ.w
theorem pv_whole (z : Int) (w : World) (h0 : -9223372036854775808 ≤ z) (h1 : z ≤ 9223372036854775807) : Calls Try.prog 33 #[.int .i64 z] w (RetW (.pint z) w) := (whole_any z w h0 h1).mono fun _ _ => RetJ.w
theorem qv_num {u : Value} {x : Rat} {w : World} (h : QV w u x) (hx : x.num.natAbs < W ^ 3 ∧ x.den < W ^ 3) : Calls Try.prog 34 #[u] w (Rt (outT x).1 (outT x).2.1 (outT x).2.2 w) := by
  obtain ⟨b, A, n, c, B, m, d, rfl, hQ⟩ := h
  have := num_any b A B n c m d x w hQ (by have := hQ.2.1.len hx.1; omega) (by have := hQ.2.2.len hx.2; omega)
  rw [outN_val] at this
  exact this

/-- The store of two cells. -/
def st2 (w : World) (g : Nat) (a b : Value) : World := (w.setCell ⟨g, 0, none⟩ a).setCell ⟨g, 1, none⟩ b
theorem Wr.put {g T : Nat} {w : World} (h : Wr g T w) (a b : Value) : B2n g a b (st2 w g a b) ∧ Wr g T (st2 w g a b) := by
  obtain ⟨⟨p, q, h1, h2⟩, f1, f2, hx⟩ := h
  have hz := hx.lt
  have hb : B2n g a b (st2 w g a b) := ⟨by simp [st2, go_sem, h1], by simp [st2, go_sem, h2], Nat.lt_of_lt_of_le hz (Nat.le_trans (size_set _ _ _ _) (size_set _ _ _ _))⟩
  exact ⟨hb, ⟨a, b, hb.1, hb.2.1⟩, by simp [st2, go_sem, f1], by simp [st2, go_sem, f2], (hx.set _ _ _).set _ _ _⟩
theorem B2n.st2 {g k : Nat} {a b : Value} {w : World} (h : B2n g a b w) (hk : g ≠ k) (p q : Value) : B2n g a b (st2 w k p q) := by
  obtain ⟨h1, h2, h4⟩ := h
  have e : (Go.Proofs.Ytjoanclnaeephaa.st2 w k p q).heap[g]? = w.heap[g]? := (Below.heap_setCell _ _ _ _ hk).trans (Below.heap_setCell _ _ _ _ hk)
  exact ⟨(World.cell?_of_block (w := w) (a := ⟨g, 0, none⟩) e).trans h1, (World.cell?_of_block (w := w) (a := ⟨g, 1, none⟩) e).trans h2, Nat.lt_of_lt_of_le h4 (Nat.le_trans (size_set _ _ _ _) (size_set _ _ _ _))⟩
theorem Wr.st2 {g k T : Nat} {w : World} (h : Wr g T w) (hk : g ≠ k) (p q : Value) : Wr g T (st2 w k p q) := (h.far hk _ _).far hk _ _
theorem Wr4.st2 {g k : Nat} {w : World} (h : Wr4 g 57 w) (hk : g ≠ k) (p q : Value) : Wr4 g 57 (st2 w k p q) := (h.far hk _ _).far hk _ _
theorem st2_below {base : Nat} {X w : World} (h : Below base X w) {g : Nat} (hg : base ≤ g) (a b : Value) : Below base X (st2 w g a b) := (h.setCell hg _).setCell hg _
theorem PV.st2 {w : World} {v : Value} {z : Int} (h : PV w v z) {g : Nat} (hw : Wr g 55 w) (p q : Value) : PV (st2 w g p q) v z := by
  obtain ⟨b, A, n, c, e, h1, h2⟩ := h
  exact ⟨b, A, n, c, e, h1, (h2.set hw.2.2.2 (by decide) _ _).set (hw.2.2.2.set _ _ _) (by decide) _ _⟩
/-- A box that holds an integer. -/
def BP (w : World) (g : Nat) (z : Int) : Prop := ∃ b A n c, B2n g (.bool b) (.slice A n c) w ∧ PV w (.agg #[.bool b, .slice A n c]) z
theorem BP.keep {w w' : World} {g : Nat} {z : Int} (h : BP w g z) (hb : Below w.heap.size w w') : BP w' g z := by
  obtain ⟨b, A, n, c, h1, h2⟩ := h
  exact ⟨b, A, n, c, h1.keep hb, h2.keep hb⟩
theorem BP.st2 {w : World} {g k : Nat} {z : Int} (h : BP w g z) (hk : g ≠ k) (hw : Wr k 55 w) (p q : Value) : BP (st2 w k p q) g z := by
  obtain ⟨b, A, n, c, h1, h2⟩ := h
  exact ⟨b, A, n, c, h1.st2 hk p q, h2.st2 hw p q⟩
theorem BP.put {w : World} {g : Nat} {z : Int} {b : Bool} {A : Option Addr} {n c : Nat} (hw : Wr g 55 w) (h : PV w (.agg #[.bool b, .slice A n c]) z) : BP (Go.Proofs.Ytjoanclnaeephaa.st2 w g (.bool b) (.slice A n c)) g z :=
  ⟨b, A, n, c, (hw.put _ _).1, h.st2 hw _ _⟩

/-- The state of Ratio. -/
structure RtF (w wr : World) : Prop where
  below : Below w.heap.size w wr
  wa : Wr w.heap.size 55 wr
  wb : Wr (w.heap.size + 1) 55 wr
  wc : Wr4 (w.heap.size + 1 + 1) 57 wr
theorem RtF.keep {w wx wy : World} (h : RtF w wx) (hb : Below wx.heap.size wx wy) : RtF w wy :=
  ⟨h.below.trans (hb.mono h.below.size), h.wa.keep hb, h.wb.keep hb, h.wc.keep hb⟩
theorem RtF.set_a {w wx : World} (h : RtF w wx) (a b : Value) : RtF w (st2 wx w.heap.size a b) :=
  ⟨st2_below h.below (Nat.le_refl _) _ _, (h.wa.put _ _).2, h.wb.st2 (by omega) _ _, h.wc.st2 (by omega) _ _⟩
theorem RtF.set_b {w wx : World} (h : RtF w wx) (a b : Value) : RtF w (st2 wx (w.heap.size + 1) a b) :=
  ⟨st2_below h.below (Nat.le_succ _) _ _, h.wa.st2 (by omega) _ _, (h.wb.put _ _).2, h.wc.st2 (by omega) _ _⟩
structure RtS (w : World) (p q : Int) (wr : World) : Prop where
  fr : RtF w wr
  ba : BP wr w.heap.size p
  bb : BP wr (w.heap.size + 1) q
theorem RtS.keep {w wx wy : World} {p q : Int} (h : RtS w p q wx) (hb : Below wx.heap.size wx wy) : RtS w p q wy := ⟨h.fr.keep hb, h.ba.keep hb, h.bb.keep hb⟩
/-- While the signs are turned. -/
structure Rt2 (w : World) (z z' : Int) (b1 b2 : Bool) (A1 A2 : Option Addr) (m1 c1 m2 c2 : Nat) (wx : World) : Prop where
  fr : RtF w wx
  bp : B2n w.heap.size (.bool b1) (.slice A1 m1 c1) wx
  bq : B2n (w.heap.size + 1) (.bool b2) (.slice A2 m2 c2) wx
  rp : PV wx (.agg #[.bool b1, .slice A1 m1 c1]) z
  rq : PV wx (.agg #[.bool b2, .slice A2 m2 c2]) z'
theorem Rt2.keep {w : World} {z z' : Int} {b1 b2 : Bool} {A1 A2 : Option Addr} {m1 c1 m2 c2 : Nat} (wx wy : World) (h : Rt2 w z z' b1 b2 A1 A2 m1 c1 m2 c2 wx) (hb : Below wx.heap.size wx wy) : Rt2 w z z' b1 b2 A1 A2 m1 c1 m2 c2 wy :=
  ⟨h.fr.keep hb, h.bp.keep hb, h.bq.keep hb, h.rp.keep hb, h.rq.keep hb⟩
/-- While the result is made. -/
structure Rt4 (w : World) (gc : Nat) (p q G : Int) (b1 b2 b3 : Bool) (A1 A2 A3 : Option Addr) (m1 c1 m2 c2 m3 c3 : Nat) (wx : World) : Prop where
  fr : RtF w wx
  bp : B2n w.heap.size (.bool b1) (.slice A1 m1 c1) wx
  bq : B2n (w.heap.size + 1) (.bool b2) (.slice A2 m2 c2) wx
  bg : B2n gc (.bool b3) (.slice A3 m3 c3) wx
  rp : PV wx (.agg #[.bool b1, .slice A1 m1 c1]) p
  rq : PV wx (.agg #[.bool b2, .slice A2 m2 c2]) q
  rg : PV wx (.agg #[.bool b3, .slice A3 m3 c3]) G
theorem Rt4.keep {w : World} {gc : Nat} {p q G : Int} {b1 b2 b3 : Bool} {A1 A2 A3 : Option Addr} {m1 c1 m2 c2 m3 c3 : Nat} (wx wy : World) (h : Rt4 w gc p q G b1 b2 b3 A1 A2 A3 m1 c1 m2 c2 m3 c3 wx) (hb : Below wx.heap.size wx wy) : Rt4 w gc p q G b1 b2 b3 A1 A2 A3 m1 c1 m2 c2 m3 c3 wy :=
  ⟨h.fr.keep hb, h.bp.keep hb, h.bq.keep hb, h.bg.keep hb, h.rp.keep hb, h.rq.keep hb, h.rg.keep hb⟩
/-- The result lies in its box. -/
def EndQ (w : World) (g : Nat) (x : Rat) (wf : World) : Prop := ∃ b A n c B m d, B4 g (.bool b) (.slice A n c) (.bool false) (.slice B m d) wf ∧ Q wf b (.slice A n c) (.slice B m d) x ∧ Below w.heap.size w wf
def st4 (w : World) (g : Nat) (a b c d : Value) : World := (((w.setCell ⟨g, 0, none⟩ a).setCell ⟨g, 1, none⟩ b).setCell ⟨g, 2, none⟩ c).setCell ⟨g, 3, none⟩ d
theorem endQ_store {w wx : World} {g : Nat} {x : Rat} {b : Bool} {A B : Option Addr} {n c m d : Nat} (hB : Below w.heap.size w wx) (hg : w.heap.size ≤ g) (hW : Wr4 g 57 wx) (h : Q wx b (.slice A n c) (.slice B m d) x) : EndQ w g x (st4 wx g (.bool b) (.slice A n c) (.bool false) (.slice B m d)) := by
  have hx := hW.bx
  exact ⟨b, A, n, c, B, m, d, (hW.set _ _ _ _).1, ⟨h.1, (((h.2.1.set hx (by decide) _ _).set (hx.set _ _ _) (by decide) _ _).set ((hx.set _ _ _).set _ _ _) (by decide) _ _).set (((hx.set _ _ _).set _ _ _).set _ _ _) (by decide) _ _,
    (((h.2.2.set hx (by decide) _ _).set (hx.set _ _ _) (by decide) _ _).set ((hx.set _ _ _).set _ _ _) (by decide) _ _).set (((hx.set _ _ _).set _ _ _).set _ _ _) (by decide) _ _⟩, (((hB.setCell hg _).setCell hg _).setCell hg _).setCell hg _⟩

end Go.Proofs.Ytjoanclnaeephaa

namespace Go.Proofs.Ytjoanclnaeephaa
open Go.RowKit

set_option maxRecDepth 100000 in
set_option maxHeartbeats 20000000 in
theorem ratio_neg (z z' p q g s2 : Int) (b1 b2 : Bool) (A1 A2 : Option Addr) (m1 c1 m2 c2 : Nat) (x : Rat) (w : World) (g0 : decide (s2 < 0) = true)
    (H1 : Hid (PV w (.agg #[.bool b1, .slice A1 m1 c1]) z)) (H2 : Hid (PV w (.agg #[.bool b2, .slice A2 m2 c2]) z'))
    (HS : Hid (∀ wx, Calls Try.prog 64 #[.agg #[.bool b2, .slice A2 m2 c2]] wx fun e w' => e = .returned (.int .i64 s2) ∧ Below wx.heap.size wx w'))
    (HNp : Hid (∀ wx u, PV wx u z → Calls Try.prog 65 #[u] wx (RetW (.pint p) wx))) (HNq : Hid (∀ wx u, PV wx u z' → Calls Try.prog 65 #[u] wx (RetW (.pint q) wx)))
    (HG : Hid (∀ wx u u', PV wx u p → PV wx u' q → Calls Try.prog 66 #[u, u'] wx (RetW (.pint g) wx)))
    (HO1 : Hid (∀ wx u u', PV wx u p → PV wx u' g → Calls Try.prog 67 #[u, u'] wx (RetW (.pint x.num) wx)))
    (HO2 : Hid (∀ wx u u', PV wx u q → PV wx u' g → Calls Try.prog 67 #[u, u'] wx (RetW (.pint (x.den : Int)) wx)))
    :
    Calls Try.prog 32 #[.agg #[.bool b1, .slice A1 m1 c1], .agg #[.bool b2, .slice A2 m2 c2]] w (RetW (.prat x) w) := by
  go_enter Try.func32, Try.ntmps32
  go_upto_region 1 with fail
  generalize hX : ((w.alloc _).alloc _).alloc _ = X
  have HX : Hid (Rt2 w z z' b1 b2 A1 A2 m1 c1 m2 c2 X) := by
    have hB : Below w.heap.size w X := by subst hX; exact (((Below.refl _ _).alloc (Nat.le_refl _) _).alloc (by simp) _).alloc (by simp; omega) _
    refine ⟨⟨hB, ?_, ?_, ?_⟩, ?_, ?_, H1.out.keep hB, H2.out.keep hB⟩
    · subst hX; exact ((Wr.new w _ _ _ rfl).keep (below_alloc _ _)).keep (below_alloc _ _)
    · subst hX; exact (Wr.new _ _ _ _ (by simp)).keep (below_alloc _ _)
    · subst hX; exact Wr4.new _ _ _ _ _ _ (by simp)
    · subst hX; simp [B2n, go_sem]
    · subst hX; simp [B2n, go_sem]
  clear hX H1 H2
  obtain ⟨j0, j1, -⟩ := HX.out.bq
  go_wp2_with fail
  (with_reducible refine (HS.out _).mono ?_)
  rintro e w1 ⟨rfl, hB1⟩
  have HX1 := Lib.hid (HX.out.keep _ _ hB1)
  clear j0 j1 hB1 HX HS
  go_upto_region 2 with fail
  refine wp_region_flow_store2 4 [9, 10, 11, 12] (fun i => 9 + i) (Rt2 w z z' b1 b2 A1 A2 m1 c1 m2 c2) (RtS w p q) (fun v wx => RtF w wx ∧ BP wx w.heap.size p ∧ PV wx (v 12) q) (Sql [.pint z, .pint p, .pint z', .pint q]) (by kernel_rfl) (by kernel_rfl) (by kernel_rfl) (by kernel_rfl) (by kernel_rfl) (by kernel_rfl) (fun i j _ _ h => Nat.add_left_cancel (show 9 + i = 9 + j from h)) (by decide) Rt2.keep Sql.keep ?_ ?_ ?_ ?_ ?_
  · exact HX1.out.keep _ _ (Below.drew (Below.refl _ _))
  · intro i v wx o T' K hi ho hF hdep hin hout hK
    have q9 := hin 9 (by decide)
    have q10 := hin 10 (by decide)
    have q11 := hin 11 (by decide)
    have q12 := hin 12 (by decide)
    have sl2 : T'[2]? = some (.pointer (some ⟨w.heap.size, 0, none⟩)) := (hout 2 (by decide)).trans rfl
    have sl3 : T'[3]? = some (.pointer (some ⟨w.heap.size + 1, 0, none⟩)) := (hout 3 (by decide)).trans rfl
    clear hin hout
    have HF := Lib.hid hF
    have HD := Lib.hid hdep
    clear hF hdep
    rcases (by omega : i = 0 ∨ i = 1 ∨ i = 2 ∨ i = 3) with rfl | rfl | rfl | rfl
    · obtain rfl := Option.some.inj ho
      obtain ⟨k0, k1, k2⟩ := HF.out.bp
      have hP := HF.out.rp
      clear q9 q10 q11 q12 sl3 ho hi
      go_simp
      exact hK _ _ (Below.refl _ _) hP
    · obtain rfl := Option.some.inj ho
      have h0 : PV wx (v 9) z := HD.out ⟨0, .data⟩ (by simp) rfl
      clear q10 q11 q12 sl2 sl3 ho hi
      go_simp
      (with_reducible refine (HNp.out _ _ h0).mono ?_)
      rintro e w2 ⟨u, rfl, hu, hB⟩
      exact hK _ _ hB hu
    · obtain rfl := Option.some.inj ho
      obtain ⟨k0, k1, k2⟩ := HF.out.bq
      have hP := HF.out.rq
      clear q9 q10 q11 q12 sl2 ho hi
      go_simp
      exact hK _ _ (Below.refl _ _) hP
    · obtain rfl := Option.some.inj ho
      have h0 : PV wx (v 11) z' := HD.out ⟨2, .data⟩ (by simp) rfl
      clear q9 q10 q12 sl2 sl3 ho hi
      go_simp
      (with_reducible refine (HNq.out _ _ h0).mono ?_)
      rintro e w2 ⟨u, rfl, hu, hB⟩
      exact hK _ _ hB hu
  · intro v wx o T' K ho hF hall hin hout hK
    obtain rfl := Option.some.inj ho
    have sl2 : T'[2]? = some (.pointer (some ⟨w.heap.size, 0, none⟩)) := (hout 2 (by decide)).trans rfl
    have q10 := hin 10 (by decide)
    clear hin hout ho
    have h0 : PV wx (v 10) p := hall 1 (by decide)
    have h1 : PV wx (v 12) q := hall 3 (by decide)
    obtain ⟨b5, A5, m5, c5, e5, h5, d5⟩ := h0
    rw [e5] at q10
    have HRR : Hid (RtF w (st2 wx w.heap.size (.bool b5) (.slice A5 m5 c5)) ∧ BP (st2 wx w.heap.size (.bool b5) (.slice A5 m5 c5)) w.heap.size p ∧ PV (st2 wx w.heap.size (.bool b5) (.slice A5 m5 c5)) (v 12) q) := ⟨hF.fr.set_a _ _, BP.put hF.fr.wa ⟨b5, A5, m5, c5, rfl, h5, d5⟩, h1.st2 hF.fr.wa _ _⟩
    obtain ⟨⟨o0, o1, o2, o3⟩, o4, o5, -⟩ := hF.fr.wa
    clear e5 h5 d5 h1 hF hall
    go_simp
    exact hK _ HRR.out
  · intro v wx o T' K ho hM hin hout hK
    obtain rfl := Option.some.inj ho
    have sl3 : T'[3]? = some (.pointer (some ⟨w.heap.size + 1, 0, none⟩)) := (hout 3 (by decide)).trans rfl
    have q12 := hin 12 (by decide)
    clear hin hout ho
    obtain ⟨hF, hbp, h1⟩ := hM
    obtain ⟨b5, A5, m5, c5, e5, h5, d5⟩ := h1
    rw [e5] at q12
    have HRR : Hid (RtS w p q (st2 wx (w.heap.size + 1) (.bool b5) (.slice A5 m5 c5))) := ⟨hF.set_b _ _, hbp.st2 (by omega) hF.wb _ _, BP.put hF.wb ⟨b5, A5, m5, c5, rfl, h5, d5⟩⟩
    obtain ⟨⟨o0, o1, o2, o3⟩, o4, o5, -⟩ := hF.wb
    clear e5 h5 d5 hbp hF
    go_simp
    exact hK _ HRR.out
  · intro v wx hE
    have HY : Hid (RtS w p q wx) := hE
    clear hE
    simp only [over, List.setIfInBounds_toArray, List.set_cons_zero, List.set_cons_succ]
    generalize v 9 = v9
    generalize v 10 = v10
    generalize v 11 = v11
    generalize v 12 = v12
    clear HX1 HNp HNq
    revert HY
    generalize wx = Y
    intro HY
    go_upto_region 3 with fail
    obtain ⟨b3, A3, m3, c3, hb3, hp3⟩ := HY.out.ba
    obtain ⟨b4, A4, m4, c4, hb4, hp4⟩ := HY.out.bb
    have HB3 := Lib.hid hb3
    have HB4 := Lib.hid hb4
    have HP3 := Lib.hid hp3
    have HP4 := Lib.hid hp4
    clear hb3 hb4 hp3 hp4
    obtain ⟨k0, k1, -⟩ := HB3.out
    obtain ⟨j0, j1, -⟩ := HB4.out
    go_wp2_with fail
    (with_reducible refine (HG.out _ _ _ HP3.out HP4.out).mono ?_)
    rintro e w4 ⟨u, rfl, hu, hB4⟩
    obtain ⟨b5, A5, m5, c5, rfl, hb5, hD5⟩ := hu
    have HP5 : Hid (PV w4 (.agg #[.bool b5, .slice A5 m5 c5]) g) := ⟨b5, A5, m5, c5, rfl, hb5, hD5⟩
    have H4 := Lib.hid hB4
    clear k0 k1 j0 j1 hb5 hD5 hB4
    go_upto_region 4 with fail
    generalize hZ : w4.alloc _ = Z
    have HZ : Hid (Rt4 w w4.heap.size p q g b3 b4 b5 A3 A4 A5 m3 c3 m4 c4 m5 c5 Z) := by
      have hB : Below w4.heap.size w4 Z := by subst hZ; exact below_alloc _ _
      exact ⟨(HY.out.fr.keep H4.out).keep hB, (HB3.out.keep H4.out).keep hB, (HB4.out.keep H4.out).keep hB, by subst hZ; simp [B2n, go_sem], (HP3.out.keep H4.out).keep hB, (HP4.out.keep H4.out).keep hB, HP5.out.keep hB⟩
    clear hZ HB3 HB4 HP3 HP4 HP5 H4 HY HG
    generalize w4.heap.size = gc at HZ ⊢
    clear w4
    refine wp_region_flow_store 7 [16, 17, 18, 19, 20, 21, 22] (fun i => 16 + i) (Rt4 w gc p q g b3 b4 b5 A3 A4 A5 m3 c3 m4 c4 m5 c5) (EndQ w (w.heap.size + 1 + 1) x) (Sql [.pint p, .pint g, .pint x.num, .pint q, .pint g, .pint (x.den : Int), .prat x]) (by kernel_rfl) (by kernel_rfl) (by kernel_rfl) (by kernel_rfl) (by kernel_rfl) (fun i j _ _ h => Nat.add_left_cancel (show 16 + i = 16 + j from h)) (by decide) Rt4.keep Sql.keep ?_ ?_ ?_ ?_
    · exact HZ.out.keep _ _ (Below.drew (Below.refl _ _))
    · intro i v wx o T' K hi ho hF hdep hin hout hK
      have q16 := hin 16 (by decide)
      have q17 := hin 17 (by decide)
      have q18 := hin 18 (by decide)
      have q19 := hin 19 (by decide)
      have q20 := hin 20 (by decide)
      have q21 := hin 21 (by decide)
      have q22 := hin 22 (by decide)
      have sl2 : T'[2]? = some (.pointer (some ⟨w.heap.size, 0, none⟩)) := (hout 2 (by decide)).trans rfl
      have sl3 : T'[3]? = some (.pointer (some ⟨w.heap.size + 1, 0, none⟩)) := (hout 3 (by decide)).trans rfl
      have sl4 : T'[4]? = some (.pointer (some ⟨w.heap.size + 1 + 1, 0, none⟩)) := (hout 4 (by decide)).trans rfl
      have sl5 : T'[5]? = some (.pointer (some ⟨gc, 0, none⟩)) := (hout 5 (by decide)).trans rfl
      clear hin hout
      have HF := Lib.hid hF
      have HD := Lib.hid hdep
      clear hF hdep
      rcases (by omega : i = 0 ∨ i = 1 ∨ i = 2 ∨ i = 3 ∨ i = 4 ∨ i = 5 ∨ i = 6) with rfl | rfl | rfl | rfl | rfl | rfl | rfl
      · obtain rfl := Option.some.inj ho
        obtain ⟨k0, k1, k2⟩ := HF.out.bp
        have hP := HF.out.rp
        clear q16 q17 q18 q19 q20 q21 q22 sl3 sl4 sl5 ho hi
        go_simp
        exact hK _ _ (Below.refl _ _) hP
      · obtain rfl := Option.some.inj ho
        obtain ⟨k0, k1, k2⟩ := HF.out.bg
        have hP := HF.out.rg
        clear q16 q17 q18 q19 q20 q21 q22 sl2 sl3 sl4 ho hi
        go_simp
        exact hK _ _ (Below.refl _ _) hP
      · obtain rfl := Option.some.inj ho
        have h0 : PV wx (v 16) p := HD.out ⟨0, .data⟩ (by simp) rfl
        have h1 : PV wx (v 17) g := HD.out ⟨1, .data⟩ (by simp) rfl
        clear q18 q19 q20 q21 q22 sl2 sl3 sl4 sl5 ho hi
        go_simp
        (with_reducible refine (HO1.out _ _ _ h0 h1).mono ?_)
        rintro e w2 ⟨u, rfl, hu, hB⟩
        exact hK _ _ hB hu
      · obtain rfl := Option.some.inj ho
        obtain ⟨k0, k1, k2⟩ := HF.out.bq
        have hP := HF.out.rq
        clear q16 q17 q18 q19 q20 q21 q22 sl2 sl4 sl5 ho hi
        go_simp
        exact hK _ _ (Below.refl _ _) hP
      · obtain rfl := Option.some.inj ho
        obtain ⟨k0, k1, k2⟩ := HF.out.bg
        have hP := HF.out.rg
        clear q16 q17 q18 q19 q20 q21 q22 sl2 sl3 sl4 ho hi
        go_simp
        exact hK _ _ (Below.refl _ _) hP
      · obtain rfl := Option.some.inj ho
        have h0 : PV wx (v 19) q := HD.out ⟨3, .data⟩ (by simp) rfl
        have h1 : PV wx (v 20) g := HD.out ⟨4, .data⟩ (by simp) rfl
        clear q16 q17 q18 q21 q22 sl2 sl3 sl4 sl5 ho hi
        go_simp
        (with_reducible refine (HO2.out _ _ _ h0 h1).mono ?_)
        rintro e w2 ⟨u, rfl, hu, hB⟩
        exact hK _ _ hB hu
      · obtain rfl := Option.some.inj ho
        have e0 : PV wx (v 18) x.num := HD.out ⟨2, .data⟩ (by simp) rfl
        have e1 : PV wx (v 21) (x.den : Int) := HD.out ⟨5, .data⟩ (by simp) rfl
        obtain ⟨b6, A6, m6, c6, g6, h6, d6⟩ := e0
        obtain ⟨b7, A7, m7, c7, g7, h7, d7⟩ := e1
        have e7 : b7 = false := by rw [h7.out]; exact decide_eq_false (by omega)
        rw [g6] at q18
        rw [g7, e7] at q21
        have HW : Hid (QV wx (.agg #[.bool b6, .slice A6 m6 c6, .bool false, .slice A7 m7 c7]) x) := ⟨b6, A6, m6, c6, A7, m7, c7, rfl, h6.out, d6, by rw [Int.natAbs_natCast] at d7; exact d7⟩
        clear g6 g7 h6 h7 d6 d7 e7
        clear q16 q17 q19 q20 q22 sl2 sl3 sl4 sl5 ho hi
        go_simp
        exact hK _ _ (Below.refl _ _) HW.out
    · intro v wx o T' K ho hF hall hin hout hK
      obtain rfl := Option.some.inj ho
      have sl4 : T'[4]? = some (.pointer (some ⟨w.heap.size + 1 + 1, 0, none⟩)) := (hout 4 (by decide)).trans rfl
      have q22 := hin 22 (by decide)
      have h0 : QV wx (v 22) x := hall 6 (by decide)
      clear hin hout hall ho
      obtain ⟨b6, A6, m6, c6, A7, m7, c7, e5, h5⟩ := h0
      rw [e5] at q22
      have HR := Lib.hid (endQ_store hF.fr.below (show w.heap.size ≤ w.heap.size + 1 + 1 by omega) hF.fr.wc h5)
      obtain ⟨⟨o0, o1, o2, o3, p0, p1, p2, p3⟩, f0, f1, f2, f3, -⟩ := hF.fr.wc
      clear e5 h5 hF
      go_simp
      exact hK _ HR.out
    · intro v wx hE
      obtain ⟨b6, A6, m6, c6, A7, m7, c7, ⟨k0, k1, k2, k3⟩, hQ, hB⟩ := hE
      have HQ := Lib.hid hQ
      have HB := Lib.hid hB
      clear hQ hB
      simp only [over, List.setIfInBounds_toArray, List.set_cons_zero, List.set_cons_succ]
      generalize v 16 = v16
      generalize v 17 = v17
      generalize v 18 = v18
      generalize v 19 = v19
      generalize v 20 = v20
      generalize v 21 = v21
      generalize v 22 = v22
      go_wp2_with fail
      exact bodyPost_ret (v := .agg #[.bool b6, .slice A6 m6 c6, .bool false, .slice A7 m7 c7]) (by simp [results, Try.results32, go_sem, k0, k1, k2, k3]) rfl ⟨_, rfl, ⟨b6, A6, m6, c6, A7, m7, c7, rfl, HQ.out⟩, HB.out⟩

set_option maxRecDepth 100000 in
set_option maxHeartbeats 20000000 in
theorem ratio_pos (z z' p q g s2 : Int) (b1 b2 : Bool) (A1 A2 : Option Addr) (m1 c1 m2 c2 : Nat) (x : Rat) (w : World) (g0 : decide (s2 < 0) = false)
    (H1 : Hid (PV w (.agg #[.bool b1, .slice A1 m1 c1]) z)) (H2 : Hid (PV w (.agg #[.bool b2, .slice A2 m2 c2]) z'))
    (HS : Hid (∀ wx, Calls Try.prog 64 #[.agg #[.bool b2, .slice A2 m2 c2]] wx fun e w' => e = .returned (.int .i64 s2) ∧ Below wx.heap.size wx w'))
    (hpq : Hid (p = z ∧ q = z'))
    (HG : Hid (∀ wx u u', PV wx u p → PV wx u' q → Calls Try.prog 66 #[u, u'] wx (RetW (.pint g) wx)))
    (HO1 : Hid (∀ wx u u', PV wx u p → PV wx u' g → Calls Try.prog 67 #[u, u'] wx (RetW (.pint x.num) wx)))
    (HO2 : Hid (∀ wx u u', PV wx u q → PV wx u' g → Calls Try.prog 67 #[u, u'] wx (RetW (.pint (x.den : Int)) wx)))
    :
    Calls Try.prog 32 #[.agg #[.bool b1, .slice A1 m1 c1], .agg #[.bool b2, .slice A2 m2 c2]] w (RetW (.prat x) w) := by
  go_enter Try.func32, Try.ntmps32
  go_upto_region 1 with fail
  generalize hX : ((w.alloc _).alloc _).alloc _ = X
  have HX : Hid (Rt2 w z z' b1 b2 A1 A2 m1 c1 m2 c2 X) := by
    have hB : Below w.heap.size w X := by subst hX; exact (((Below.refl _ _).alloc (Nat.le_refl _) _).alloc (by simp) _).alloc (by simp; omega) _
    refine ⟨⟨hB, ?_, ?_, ?_⟩, ?_, ?_, H1.out.keep hB, H2.out.keep hB⟩
    · subst hX; exact ((Wr.new w _ _ _ rfl).keep (below_alloc _ _)).keep (below_alloc _ _)
    · subst hX; exact (Wr.new _ _ _ _ (by simp)).keep (below_alloc _ _)
    · subst hX; exact Wr4.new _ _ _ _ _ _ (by simp)
    · subst hX; simp [B2n, go_sem]
    · subst hX; simp [B2n, go_sem]
  clear hX H1 H2
  obtain ⟨j0, j1, -⟩ := HX.out.bq
  go_wp2_with fail
  (with_reducible refine (HS.out _).mono ?_)
  rintro e w1 ⟨rfl, hB1⟩
  have HX1 := Lib.hid (HX.out.keep _ _ hB1)
  clear j0 j1 hB1 HX HS
  have HY : Hid (RtS w p q w1) := by
    obtain ⟨rfl, rfl⟩ := hpq.out
    exact ⟨HX1.out.fr, ⟨b1, A1, m1, c1, HX1.out.bp, HX1.out.rp⟩, ⟨b2, A2, m2, c2, HX1.out.bq, HX1.out.rq⟩⟩
  clear HX1 hpq
  revert HY
  generalize w1 = Y
  intro HY
  go_upto_region 3 with fail
  obtain ⟨b3, A3, m3, c3, hb3, hp3⟩ := HY.out.ba
  obtain ⟨b4, A4, m4, c4, hb4, hp4⟩ := HY.out.bb
  have HB3 := Lib.hid hb3
  have HB4 := Lib.hid hb4
  have HP3 := Lib.hid hp3
  have HP4 := Lib.hid hp4
  clear hb3 hb4 hp3 hp4
  obtain ⟨k0, k1, -⟩ := HB3.out
  obtain ⟨j0, j1, -⟩ := HB4.out
  go_wp2_with fail
  (with_reducible refine (HG.out _ _ _ HP3.out HP4.out).mono ?_)
  rintro e w4 ⟨u, rfl, hu, hB4⟩
  obtain ⟨b5, A5, m5, c5, rfl, hb5, hD5⟩ := hu
  have HP5 : Hid (PV w4 (.agg #[.bool b5, .slice A5 m5 c5]) g) := ⟨b5, A5, m5, c5, rfl, hb5, hD5⟩
  have H4 := Lib.hid hB4
  clear k0 k1 j0 j1 hb5 hD5 hB4
  go_upto_region 4 with fail
  generalize hZ : w4.alloc _ = Z
  have HZ : Hid (Rt4 w w4.heap.size p q g b3 b4 b5 A3 A4 A5 m3 c3 m4 c4 m5 c5 Z) := by
    have hB : Below w4.heap.size w4 Z := by subst hZ; exact below_alloc _ _
    exact ⟨(HY.out.fr.keep H4.out).keep hB, (HB3.out.keep H4.out).keep hB, (HB4.out.keep H4.out).keep hB, by subst hZ; simp [B2n, go_sem], (HP3.out.keep H4.out).keep hB, (HP4.out.keep H4.out).keep hB, HP5.out.keep hB⟩
  clear hZ HB3 HB4 HP3 HP4 HP5 H4 HY HG
  generalize w4.heap.size = gc at HZ ⊢
  clear w4
  refine wp_region_flow_store 7 [16, 17, 18, 19, 20, 21, 22] (fun i => 16 + i) (Rt4 w gc p q g b3 b4 b5 A3 A4 A5 m3 c3 m4 c4 m5 c5) (EndQ w (w.heap.size + 1 + 1) x) (Sql [.pint p, .pint g, .pint x.num, .pint q, .pint g, .pint (x.den : Int), .prat x]) (by kernel_rfl) (by kernel_rfl) (by kernel_rfl) (by kernel_rfl) (by kernel_rfl) (fun i j _ _ h => Nat.add_left_cancel (show 16 + i = 16 + j from h)) (by decide) Rt4.keep Sql.keep ?_ ?_ ?_ ?_
  · exact HZ.out.keep _ _ (Below.drew (Below.refl _ _))
  · intro i v wx o T' K hi ho hF hdep hin hout hK
    have q16 := hin 16 (by decide)
    have q17 := hin 17 (by decide)
    have q18 := hin 18 (by decide)
    have q19 := hin 19 (by decide)
    have q20 := hin 20 (by decide)
    have q21 := hin 21 (by decide)
    have q22 := hin 22 (by decide)
    have sl2 : T'[2]? = some (.pointer (some ⟨w.heap.size, 0, none⟩)) := (hout 2 (by decide)).trans rfl
    have sl3 : T'[3]? = some (.pointer (some ⟨w.heap.size + 1, 0, none⟩)) := (hout 3 (by decide)).trans rfl
    have sl4 : T'[4]? = some (.pointer (some ⟨w.heap.size + 1 + 1, 0, none⟩)) := (hout 4 (by decide)).trans rfl
    have sl5 : T'[5]? = some (.pointer (some ⟨gc, 0, none⟩)) := (hout 5 (by decide)).trans rfl
    clear hin hout
    have HF := Lib.hid hF
    have HD := Lib.hid hdep
    clear hF hdep
    rcases (by omega : i = 0 ∨ i = 1 ∨ i = 2 ∨ i = 3 ∨ i = 4 ∨ i = 5 ∨ i = 6) with rfl | rfl | rfl | rfl | rfl | rfl | rfl
    · obtain rfl := Option.some.inj ho
      obtain ⟨k0, k1, k2⟩ := HF.out.bp
      have hP := HF.out.rp
      clear q16 q17 q18 q19 q20 q21 q22 sl3 sl4 sl5 ho hi
      go_simp
      exact hK _ _ (Below.refl _ _) hP
    · obtain rfl := Option.some.inj ho
      obtain ⟨k0, k1, k2⟩ := HF.out.bg
      have hP := HF.out.rg
      clear q16 q17 q18 q19 q20 q21 q22 sl2 sl3 sl4 ho hi
      go_simp
      exact hK _ _ (Below.refl _ _) hP
    · obtain rfl := Option.some.inj ho
      have h0 : PV wx (v 16) p := HD.out ⟨0, .data⟩ (by simp) rfl
      have h1 : PV wx (v 17) g := HD.out ⟨1, .data⟩ (by simp) rfl
      clear q18 q19 q20 q21 q22 sl2 sl3 sl4 sl5 ho hi
      go_simp
      (with_reducible refine (HO1.out _ _ _ h0 h1).mono ?_)
      rintro e w2 ⟨u, rfl, hu, hB⟩
      exact hK _ _ hB hu
    · obtain rfl := Option.some.inj ho
      obtain ⟨k0, k1, k2⟩ := HF.out.bq
      have hP := HF.out.rq
      clear q16 q17 q18 q19 q20 q21 q22 sl2 sl4 sl5 ho hi
      go_simp
      exact hK _ _ (Below.refl _ _) hP
    · obtain rfl := Option.some.inj ho
      obtain ⟨k0, k1, k2⟩ := HF.out.bg
      have hP := HF.out.rg
      clear q16 q17 q18 q19 q20 q21 q22 sl2 sl3 sl4 ho hi
      go_simp
      exact hK _ _ (Below.refl _ _) hP
    · obtain rfl := Option.some.inj ho
      have h0 : PV wx (v 19) q := HD.out ⟨3, .data⟩ (by simp) rfl
      have h1 : PV wx (v 20) g := HD.out ⟨4, .data⟩ (by simp) rfl
      clear q16 q17 q18 q21 q22 sl2 sl3 sl4 sl5 ho hi
      go_simp
      (with_reducible refine (HO2.out _ _ _ h0 h1).mono ?_)
      rintro e w2 ⟨u, rfl, hu, hB⟩
      exact hK _ _ hB hu
    · obtain rfl := Option.some.inj ho
      have e0 : PV wx (v 18) x.num := HD.out ⟨2, .data⟩ (by simp) rfl
      have e1 : PV wx (v 21) (x.den : Int) := HD.out ⟨5, .data⟩ (by simp) rfl
      obtain ⟨b6, A6, m6, c6, g6, h6, d6⟩ := e0
      obtain ⟨b7, A7, m7, c7, g7, h7, d7⟩ := e1
      have e7 : b7 = false := by rw [h7.out]; exact decide_eq_false (by omega)
      rw [g6] at q18
      rw [g7, e7] at q21
      have HW : Hid (QV wx (.agg #[.bool b6, .slice A6 m6 c6, .bool false, .slice A7 m7 c7]) x) := ⟨b6, A6, m6, c6, A7, m7, c7, rfl, h6.out, d6, by rw [Int.natAbs_natCast] at d7; exact d7⟩
      clear g6 g7 h6 h7 d6 d7 e7
      clear q16 q17 q19 q20 q22 sl2 sl3 sl4 sl5 ho hi
      go_simp
      exact hK _ _ (Below.refl _ _) HW.out
  · intro v wx o T' K ho hF hall hin hout hK
    obtain rfl := Option.some.inj ho
    have sl4 : T'[4]? = some (.pointer (some ⟨w.heap.size + 1 + 1, 0, none⟩)) := (hout 4 (by decide)).trans rfl
    have q22 := hin 22 (by decide)
    have h0 : QV wx (v 22) x := hall 6 (by decide)
    clear hin hout hall ho
    obtain ⟨b6, A6, m6, c6, A7, m7, c7, e5, h5⟩ := h0
    rw [e5] at q22
    have HR := Lib.hid (endQ_store hF.fr.below (show w.heap.size ≤ w.heap.size + 1 + 1 by omega) hF.fr.wc h5)
    obtain ⟨⟨o0, o1, o2, o3, p0, p1, p2, p3⟩, f0, f1, f2, f3, -⟩ := hF.fr.wc
    clear e5 h5 hF
    go_simp
    exact hK _ HR.out
  · intro v wx hE
    obtain ⟨b6, A6, m6, c6, A7, m7, c7, ⟨k0, k1, k2, k3⟩, hQ, hB⟩ := hE
    have HQ := Lib.hid hQ
    have HB := Lib.hid hB
    clear hQ hB
    simp only [over, List.setIfInBounds_toArray, List.set_cons_zero, List.set_cons_succ]
    generalize v 16 = v16
    generalize v 17 = v17
    generalize v 18 = v18
    generalize v 19 = v19
    generalize v 20 = v20
    generalize v 21 = v21
    generalize v 22 = v22
    go_wp2_with fail
    exact bodyPost_ret (v := .agg #[.bool b6, .slice A6 m6 c6, .bool false, .slice A7 m7 c7]) (by simp [results, Try.results32, go_sem, k0, k1, k2, k3]) rfl ⟨_, rfl, ⟨b6, A6, m6, c6, A7, m7, c7, rfl, HQ.out⟩, HB.out⟩

theorem pratio {u u' : Value} {z z' : Int} {w : World} (h : PV w u z) (h' : PV w u' z') (h0 : z' ≠ 0) (hz : z.natAbs < 18446744073709551616) (hz' : z'.natAbs < 18446744073709551616) :
    Calls Try.prog 32 #[u, u'] w (RetW (.prat (qt z z')) w) := by
  obtain ⟨b1, A1, m1, c1, rfl, hb1, hD1⟩ := h
  obtain ⟨b2, A2, m2, c2, rfl, hb2, hD2⟩ := h'
  have e3 : W ^ 3 = 79228162514264337593543950336 := by rw [W_eq]
  have hm : m2 ≤ 3 := hD2.len (by omega)
  obtain ⟨p, hp⟩ : ∃ p, (if z' < 0 then -z else z) = p := ⟨_, rfl⟩
  obtain ⟨q, hq⟩ : ∃ q, (if z' < 0 then -z' else z') = q := ⟨_, rfl⟩
  have hpn : p.natAbs = z.natAbs := by rw [← hp]; split <;> simp
  have hqn : q.natAbs = z'.natAbs := by rw [← hq]; split <;> simp
  obtain ⟨e1, e2⟩ := qt_parts z z' h0
  rw [hp] at e1
  rw [hq] at e2
  have hG0 : 0 < Nat.gcd z.natAbs z'.natAbs := Nat.gcd_pos_of_pos_right _ (by omega)
  have HG : Hid (∀ wx u u', PV wx u p → PV wx u' q → Calls Try.prog 66 #[u, u'] wx (RetW (.pint (Nat.gcd z.natAbs z'.natAbs : Nat)) wx)) := fun wx u u' k1 k2 => by
    have := pv_divisor k1 k2 (by omega) (by omega) (Or.inl (by omega))
    rw [hpn, hqn] at this
    exact this
  have HO1 : Hid (∀ wx u u', PV wx u p → PV wx u' (Nat.gcd z.natAbs z'.natAbs : Nat) → Calls Try.prog 67 #[u, u'] wx (RetW (.pint (qt z z').num) wx)) := fun wx u u' k1 k2 => by
    rw [← e1]
    exact pv_over k1 k2 (by omega) hG0
  have HO2 : Hid (∀ wx u u', PV wx u q → PV wx u' (Nat.gcd z.natAbs z'.natAbs : Nat) → Calls Try.prog 67 #[u, u'] wx (RetW (.pint ((qt z z').den : Int)) wx)) := fun wx u u' k1 k2 => by
    rw [← e2]
    exact pv_over k1 k2 (by omega) hG0
  have HS : Hid (∀ wx, Calls Try.prog 64 #[.agg #[.bool b2, .slice A2 m2 c2]] wx fun e w' => e = .returned (.int .i64 (sg b2 m2)) ∧ Below wx.heap.size wx w') := fun wx => signI_any b2 A2 m2 c2 wx (by omega)
  have hs : decide (sg b2 m2 < 0) = decide (z' < 0) := by
    rw [← hb2.out]
    unfold sg
    cases b2
    · by_cases hm0 : m2 = 0
      · simp [hm0]
      · simp [hm0]
    · simp
  by_cases hneg : z' < 0
  · rw [decide_eq_true hneg] at hs
    rw [if_pos hneg] at hp hq
    refine ratio_neg z z' p q _ _ b1 b2 A1 A2 m1 c1 m2 c2 _ w hs ⟨b1, A1, m1, c1, rfl, hb1, hD1⟩ ⟨b2, A2, m2, c2, rfl, hb2, hD2⟩ HS (fun wx u k => ?_) (fun wx u k => ?_) HG HO1 HO2
    · rw [← hp]
      exact pv_neg k (by omega)
    · rw [← hq]
      exact pv_neg k (by omega)
  · rw [decide_eq_false hneg] at hs
    rw [if_neg hneg] at hp hq
    exact ratio_pos z z' p q _ _ b1 b2 A1 A2 m1 c1 m2 c2 _ w hs ⟨b1, A1, m1, c1, rfl, hb1, hD1⟩ ⟨b2, A2, m2, c2, rfl, hb2, hD2⟩ HS ⟨hp.symm, hq.symm⟩ HG HO1 HO2

end Go.Proofs.Ytjoanclnaeephaa

namespace Go.Proofs.Ytjoanclnaeephaa
open Go.RowKit

set_option maxRecDepth 100000 in
set_option maxHeartbeats 20000000 in
theorem make_zero (t : Int) (w : World) : Calls Try.prog 11 #[.int .i64 t, .int .i64 0] w (Rt 0 0 6 w) := by
  go_enter Try.func11, Try.ntmps11
  go_wp2_with fail
  exact bodyPost_ret (v := .tuple #[.agg #[.int .i64 0, .int .i64 0], .int .i64 6]) (by simp [results, Try.results11, go_sem]) rfl ⟨rfl, below_alloc _ _⟩

set_option maxRecDepth 100000 in
set_option maxHeartbeats 20000000 in
theorem make_walk (t l r1 r2 r3 : Int) (x : Rat) (w : World) (h0 : (l == 0) = false)
    (HO1 : Hid (∀ wx, Calls Try.prog 33 #[.int .i64 t] wx (RetW (.pint t) wx))) (HO2 : Hid (∀ wx, Calls Try.prog 33 #[.int .i64 l] wx (RetW (.pint l) wx)))
    (HM : Hid (∀ wx u u', PV wx u t → PV wx u' l → Calls Try.prog 32 #[u, u'] wx (RetW (.prat x) wx))) (HN : Hid (∀ wx u, QV wx u x → Calls Try.prog 34 #[u] wx (Rt r1 r2 r3 wx))) :
    Calls Try.prog 11 #[.int .i64 t, .int .i64 l] w (Rt r1 r2 r3 w) := by
  go_enter Try.func11, Try.ntmps11
  go_upto_region 3 with fail
  generalize hX : w.alloc _ = X
  have HX : Hid (Below w.heap.size w X) := by
    subst hX
    exact below_alloc _ _
  obtain ⟨x0, x1, x2, x3, z1⟩ : X.cell? ⟨w.heap.size, 0, none⟩ = some (.int .i64 0) ∧ X.cell? ⟨w.heap.size, 1, none⟩ = some (.int .i64 0) ∧ X.frozen? ⟨w.heap.size, 0, none⟩ = false ∧ X.frozen? ⟨w.heap.size, 1, none⟩ = false ∧ w.heap.size < X.heap.size := by
    subst hX
    simp [go_sem]
  have HZ1 := Lib.hid z1
  clear hX z1 h0
  go_wp2_with fail
  (with_reducible refine (HO1.out _).mono ?_)
  rintro e w1 ⟨u1, rfl, hu1, hB1⟩
  have HU1 : Hid (PV w1 u1 t) := hu1
  have HB1 := Lib.hid hB1
  clear hu1 hB1
  go_wp2_with fail
  (with_reducible refine (HO2.out _).mono ?_)
  rintro e w2 ⟨u2, rfl, hu2, hB2⟩
  have HU2 : Hid (PV w2 u2 l) := hu2
  have HU1' := Lib.hid (HU1.out.keep hB2)
  have HB2 := Lib.hid (stepB HB1.out hB2)
  clear hu2 hB2 HU1 HB1
  go_wp2_with fail
  (with_reducible refine (HM.out _ _ _ HU1'.out HU2.out).mono ?_)
  rintro e w3 ⟨u3, rfl, hu3, hB3⟩
  have HU3 : Hid (QV w3 u3 x) := hu3
  have HB3 := Lib.hid (stepB HB2.out hB3)
  clear hu3 hB3 HU1' HU2 HB2
  go_wp2_with fail
  (with_reducible refine (HN.out _ _ HU3.out).mono ?_)
  rintro e w4 ⟨rfl, hB4⟩
  have HB4 := Lib.hid (stepB HB3.out hB4)
  have HB := Lib.hid (HX.out.trans (HB4.out.mono HX.out.size))
  obtain ⟨C4, F4⟩ := bcell HB4.out
  rw [← C4 _ _ HZ1.out] at x0 x1
  rw [← F4 _ _ HZ1.out] at x2 x3
  clear hB4 HU3 HB3 C4 F4 HB4 HX
  go_wp2_with fail
  exact bodyPost_ret (v := .tuple #[.agg #[.int .i64 r1, .int .i64 r2], .int .i64 r3]) (by simp [results, Try.results11, go_sem, x0, x1]) rfl ⟨rfl, (HB.out.setCell (Nat.le_refl _) _).setCell (Nat.le_refl _) _⟩

theorem make_any (t l : Int) (w : World) (ht : -9223372036854775808 ≤ t ∧ t ≤ 9223372036854775807) (hl : -9223372036854775808 ≤ l ∧ l ≤ 9223372036854775807) :
    Calls Try.prog 11 #[.int .i64 t, .int .i64 l] w (Rt (fracT t l).1 (fracT t l).2.1 (fracT t l).2.2 w) := by
  by_cases h0 : l = 0
  · subst h0
    exact make_zero t w
  · have e3 : W ^ 3 = 79228162514264337593543950336 := by rw [W_eq]
    have hq := qt_le t l h0
    have e : fracT t l = outT (qt t l) := if_neg h0
    rw [e]
    exact make_walk t l _ _ _ (qt t l) w (beq_eq_false_iff_ne.2 h0) (Lib.hid fun wx => pv_whole t wx ht.1 ht.2) (Lib.hid fun wx => pv_whole l wx hl.1 hl.2)
      (Lib.hid fun wx u u' k1 k2 => pratio k1 k2 h0 (by omega) (by omega)) (Lib.hid fun wx u k => qv_num k ⟨by omega, by omega⟩)

end Go.Proofs.Ytjoanclnaeephaa

namespace Go.Proofs.Ytjoanclnaeephaa
open Go.RowKit

set_option maxRecDepth 100000 in
set_option maxHeartbeats 4000000 in
theorem makes_walk (tp lp ta la n p1 p2 e1 q1 q2 f1 : Int) (w : World)
    (H1 : Hid (∀ wx, Calls Try.prog 9 #[.int .i64 tp, .int .i64 lp] wx (Rt p1 p2 e1 wx)))
    (H2 : Hid (∀ wx, Calls Try.prog 10 #[.agg #[.int .i64 ta, .int .i64 la], .int .i64 n] wx (Rt q1 q2 f1 wx)))
    (H3 : Hid (∀ wx, Calls Try.prog 11 #[.int .i64 tp, .int .i64 lp] wx (Rt p1 p2 e1 wx)))
    (H4 : Hid (∀ wx, Calls Try.prog 12 #[.agg #[.int .i64 ta, .int .i64 la], .int .i64 n] wx (Rt q1 q2 f1 wx))) :
    Calls Try.prog 3 #[.int .i64 tp, .int .i64 lp, .agg #[.int .i64 ta, .int .i64 la], .int .i64 n] w fun e w' => e = .returned (.bool true) ∧ Below w.heap.size w w' := by
  go_enter Try.func3, Try.ntmps3
  go_upto_region 1 with fail
  generalize hX : w.alloc (.cells #[.int .i64 ta, .int .i64 la] 23) = X
  have HS : Hid (Below w.heap.size w X) := by
    subst hX
    exact (Below.refl _ _).alloc (Nat.le_refl _) _
  have HX : Hid (Bxs X [(w.heap.size, ta, la)]) := by
    subst hX
    exact (Bxs.nil w).new ta la
  clear hX
  go_wp2_with fail
  (with_reducible refine (H1.out _).mono ?_)
  rintro e w1 ⟨rfl, hB⟩
  have HXn := Lib.hid (HX.out.keep hB)
  have HSn := Lib.hid (stepB HS.out hB)
  clear hB HX HS
  have HX := HXn
  have HS := HSn
  clear HXn HSn
  go_upto_region 2 with fail
  have HG1 := Lib.hid HS.out.size
  generalize hY : w1.alloc (.cells #[.int .i64 p1, .int .i64 p2] 23) = Y1
  have HXn : Hid (Bxs Y1 [(w.heap.size, ta, la), (w1.heap.size, p1, p2)]) := by
    subst hY
    exact HX.out.new p1 p2
  have HSn : Hid (Below w.heap.size w Y1) := by
    subst hY
    exact HS.out.alloc HS.out.size _
  clear hY HX HS
  have HX := HXn
  have HS := HSn
  clear HXn HSn
  obtain ⟨k0a, k0b, k0c, k0d, -⟩ : N2 Y1 (w.heap.size) ta la := HX.out.1 0 _ rfl
  go_wp2_with fail
  (with_reducible refine (H2.out _).mono ?_)
  rintro e w2 ⟨rfl, hB⟩
  clear k0a k0b k0c k0d
  have HXn := Lib.hid (HX.out.keep hB)
  have HSn := Lib.hid (stepB HS.out hB)
  clear hB HX HS
  have HX := HXn
  have HS := HSn
  clear HXn HSn
  go_upto_region 3 with fail
  have HG2 := Lib.hid HS.out.size
  generalize hY : w2.alloc (.cells #[.int .i64 q1, .int .i64 q2] 23) = Y2
  have HXn : Hid (Bxs Y2 [(w.heap.size, ta, la), (w1.heap.size, p1, p2), (w2.heap.size, q1, q2)]) := by
    subst hY
    exact HX.out.new q1 q2
  have HSn : Hid (Below w.heap.size w Y2) := by
    subst hY
    exact HS.out.alloc HS.out.size _
  clear hY HX HS
  have HX := HXn
  have HS := HSn
  clear HXn HSn
  go_wp2_with fail
  (with_reducible refine (H3.out _).mono ?_)
  rintro e w3 ⟨rfl, hB⟩
  have HXn := Lib.hid (HX.out.keep hB)
  have HSn := Lib.hid (stepB HS.out hB)
  clear hB HX HS
  have HX := HXn
  have HS := HSn
  clear HXn HSn
  go_upto_region 4 with fail
  have HG3 := Lib.hid HS.out.size
  generalize hY : w3.alloc (.cells #[.int .i64 p1, .int .i64 p2] 23) = Y3
  have HXn : Hid (Bxs Y3 [(w.heap.size, ta, la), (w1.heap.size, p1, p2), (w2.heap.size, q1, q2), (w3.heap.size, p1, p2)]) := by
    subst hY
    exact HX.out.new p1 p2
  have HSn : Hid (Below w.heap.size w Y3) := by
    subst hY
    exact HS.out.alloc HS.out.size _
  clear hY HX HS
  have HX := HXn
  have HS := HSn
  clear HXn HSn
  obtain ⟨k0a, k0b, k0c, k0d, -⟩ : N2 Y3 (w.heap.size) ta la := HX.out.1 0 _ rfl
  go_wp2_with fail
  (with_reducible refine (H4.out _).mono ?_)
  rintro e w4 ⟨rfl, hB⟩
  clear k0a k0b k0c k0d
  have HXn := Lib.hid (HX.out.keep hB)
  have HSn := Lib.hid (stepB HS.out hB)
  clear hB HX HS
  have HX := HXn
  have HS := HSn
  clear HXn HSn
  go_upto_region 5 with fail
  have HG4 := Lib.hid HS.out.size
  generalize hY : w4.alloc (.cells #[.int .i64 q1, .int .i64 q2] 23) = Y4
  have HXn : Hid (Bxs Y4 [(w.heap.size, ta, la), (w1.heap.size, p1, p2), (w2.heap.size, q1, q2), (w3.heap.size, p1, p2), (w4.heap.size, q1, q2)]) := by
    subst hY
    exact HX.out.new q1 q2
  have HSn : Hid (Below w.heap.size w Y4) := by
    subst hY
    exact HS.out.alloc HS.out.size _
  clear hY HX HS
  have HX := HXn
  have HS := HSn
  clear HXn HSn
  obtain ⟨k1a, k1b, k1c, k1d, -⟩ : N2 Y4 (w1.heap.size) p1 p2 := HX.out.1 1 _ rfl
  obtain ⟨k2a, k2b, k2c, k2d, -⟩ : N2 Y4 (w2.heap.size) q1 q2 := HX.out.1 2 _ rfl
  obtain ⟨k3a, k3b, k3c, k3d, -⟩ : N2 Y4 (w3.heap.size) p1 p2 := HX.out.1 3 _ rfl
  obtain ⟨k4a, k4b, k4c, k4d, -⟩ : N2 Y4 (w4.heap.size) q1 q2 := HX.out.1 4 _ rfl
  go_wp2_with fail
  (with_reducible refine (awake_any _).mono ?_)
  rintro e wa ⟨rfl, hB⟩
  have hb := stepB HS.out hB
  clear hB HX HS
  go_wp2_with fail
  go_ret
  exact ⟨rfl, hb⟩

theorem makes_any (tp lp ta la n : Int) (w : World) (ht : -9223372036854775808 ≤ tp ∧ tp ≤ 9223372036854775807) (hl : -9223372036854775808 ≤ lp ∧ lp ≤ 9223372036854775807) :
    Calls Try.prog 3 #[.int .i64 tp, .int .i64 lp, .agg #[.int .i64 ta, .int .i64 la], .int .i64 n] w fun e w' => e = .returned (.bool true) ∧ Below w.heap.size w w' :=
  makes_walk tp lp ta la n _ _ _ _ _ _ w (Lib.hid fun wx => rfraction_any tp lp wx ht hl) (Lib.hid fun wx => rpow_any ta la n wx) (Lib.hid fun wx => make_any tp lp wx ht hl) (Lib.hid fun wx => powRt ta la n wx)

end Go.Proofs.Ytjoanclnaeephaa
