/- The greatest common divisor of integers of the reference in memory. Fractions of the reference in memory: those that fit in a Num. -/
import Derived.Test.YtabaknkjcoibpaaGreatDoorM22

namespace Go.Proofs.YtabaknkjcoibpaaGreatDoor
open Go.RowKit

theorem Lc.uniq {w : World} {A : Option Addr} {l l' : List Nat} (h : Lc w A l) (h' : Lc w A l') (he : l.length = l'.length) : l = l' := by
  refine List.ext_getElem he fun i h1 h2 => ?_
  obtain ⟨b, off, e, -, hc⟩ := h (by omega)
  obtain ⟨b', off', e', -, hc'⟩ := h' (by omega)
  rw [e] at e'
  injection e' with e'
  injection e' with e1 e2
  subst e1 e2
  have k := (hc i h1).symm.trans (hc' i h2)
  injection k with k
  injection k with k1 k2
  have : l.getD i 0 = l'.getD i 0 := by omega
  rw [List.getD_eq_getElem?_getD, List.getD_eq_getElem?_getD, List.getElem?_eq_getElem h1, List.getElem?_eq_getElem h2] at this
  exact this
theorem RI.uniq {w : World} {s : Int} {neg : Bool} {A : Option Addr} {n c : Nat} {z z' : Int} (h : RI w s neg A n c z) (h' : RI w s neg A n c z') : z = z' := by
  obtain ⟨l, h1, -, -, h4, h5⟩ := h
  obtain ⟨l', k1, -, -, k4, k5⟩ := h'
  rcases h5 with ⟨e1, e2, -, -⟩ | ⟨e1, -, e3, -, e5, -⟩
  · rcases k5 with ⟨d1, d2, -, -⟩ | ⟨d1, -⟩
    · rw [← e2, d2]
    · omega
  · rcases k5 with ⟨d1, -⟩ | ⟨d1, -, d3, -, d5, -⟩
    · omega
    · obtain rfl := h4.uniq k4 (by omega)
      have e : z.natAbs = z'.natAbs := by rw [← e5, d5]
      have g := e3.symm.trans d3
      rw [decide_eq_decide] at g
      omega
theorem BI.uniq {w : World} {g : Nat} {z z' : Int} (h : BI w g z) (h' : BI w g z') : z = z' := by
  obtain ⟨s, neg, A, n, c, ⟨a1, a2, a3, -⟩, hR⟩ := h
  obtain ⟨s', neg', A', n', c', ⟨b1, b2, b3, -⟩, hR'⟩ := h'
  have e1 := a1.symm.trans b1
  have e2 := a2.symm.trans b2
  have e3 := a3.symm.trans b3
  injection e1 with e1
  injection e1 with _ e1
  injection e2 with e2
  injection e2 with e2
  injection e3 with e3
  injection e3 with e3 e4 e5
  subst e1 e2 e3 e4 e5
  exact hR.uniq hR'
/-- What a box holds, as a function of the world. -/
theorem bi_size (g : Nat) : ∃ f : World → Nat, ∀ wr z, BI wr g z → f wr = z.natAbs := by
  classical
  refine ⟨fun wr => if h : ∃ z, BI wr g z then (Classical.choose h).natAbs else 0, fun wr z hz => ?_⟩
  have h : ∃ z, BI wr g z := ⟨z, hz⟩
  show dite _ _ _ = _
  rw [dif_pos h, (Classical.choose_spec h).uniq hz]

/-- The state of the loop. -/
def GcL (w : World) (K D : Nat) (wr : World) : Prop :=
  ∃ z1 z2, Below w.heap.size w wr ∧ W3 w.heap.size wr ∧ W3 (w.heap.size + 1) wr ∧ W3 (w.heap.size + 1 + 1) wr ∧ BI wr w.heap.size z1 ∧ BI wr (w.heap.size + 1) z2 ∧ z1.natAbs < Bs ^ K ∧ z2.natAbs < Bs ^ K ∧ Nat.gcd z1.natAbs z2.natAbs = D

theorem gcd_tmod (z1 z2 : Int) : Nat.gcd z2.natAbs (z1.tmod z2).natAbs = Nat.gcd z1.natAbs z2.natAbs := by
  rw [Int.natAbs_tmod, Nat.gcd_comm z1.natAbs, Nat.gcd_comm z2.natAbs]
  exact (Nat.gcd_rec z2.natAbs z1.natAbs).symm

theorem Drn.w3 {w w' : World} (h : Drn w w') {g : Nat} (hd : W3 g w) : W3 g w' := by obtain ⟨q, rfl⟩ := h; exact hd
theorem Drn.bi {w w' : World} (h : Drn w w') {g : Nat} {z : Int} (hd : BI w g z) : BI w' g z := by obtain ⟨q, rfl⟩ := h; exact hd
theorem GcL.next {w Y wf wr : World} {K D : Nat} {f : World → Nat} {s2 s4 z1 z2 : Int} {n2 n4 : Bool} {A2 A4 : Option Addr} {m2 c2 m4 c4 : Nat}
    (hd : Drn (set3 (set3 Y w.heap.size (.int .i64 s2) (.bool n2) (.slice A2 m2 c2)) (w.heap.size + 1) (.int .i64 s4) (.bool n4) (.slice A4 m4 c4)) wf)
    (hY : Below w.heap.size w Y) (ha : W3 w.heap.size Y) (hb : W3 (w.heap.size + 1) Y) (hc : W3 (w.heap.size + 1 + 1) Y) (h2 : RI Y s2 n2 A2 m2 c2 z2) (h4 : RI Y s4 n4 A4 m4 c4 (z1.tmod z2)) (h0 : z2 ≠ 0) (hz2 : z2.natAbs < Bs ^ K)
    (hD : Nat.gcd z1.natAbs z2.natAbs = D) (hM : f wr = z2.natAbs) (hf : ∀ wr z, BI wr (w.heap.size + 1) z → f wr = z.natAbs) : GcL w K D wf ∧ f wf < f wr := by
  have hb1 := hb.set_3 (show w.heap.size + 1 ≠ w.heap.size by omega) (.int .i64 s2) (.bool n2) (.slice A2 m2 c2)
  have kb : BI wf (w.heap.size + 1) (z1.tmod z2) := hd.bi ⟨s4, n4, A4, m4, c4, (hb1.set _ _ _).1, (h4.set_3 ha _ _ _).set_3 hb1 _ _ _⟩
  have ka : BI wf w.heap.size z2 := hd.bi ⟨s2, n2, A2, m2, c2, (ha.set _ _ _).1.set_3 (by omega) _ _ _, (h2.set_3 ha _ _ _).set_3 hb1 _ _ _⟩
  have hm := Nat.mod_lt z1.natAbs (show 0 < z2.natAbs by omega)
  rw [← Int.natAbs_tmod] at hm
  exact ⟨⟨z2, z1.tmod z2, (set3_below (set3_below hY (Nat.le_refl _) _ _ _) (Nat.le_succ _) _ _ _).trans (hd.below _), hd.w3 ((ha.set _ _ _).2.set_3 (by omega) _ _ _), hd.w3 (hb1.set _ _ _).2, hd.w3 ((hc.set_3 (by omega) _ _ _).set_3 (by omega) _ _ _),
    ka, kb, hz2, Nat.lt_trans hm hz2, by rw [gcd_tmod]; exact hD⟩, by rw [hM, hf _ _ kb]; exact hm⟩

set_option maxRecDepth 100000 in
set_option maxHeartbeats 20000000 in
theorem rgcd_any (s s' : Int) (neg neg' : Bool) (A A' : Option Addr) (n c n' c' K : Nat) (z z' : Int) (w : World) (h : RI w s neg A n c z) (h' : RI w s' neg' A' n' c' z') (hK : K ≤ 250000) (hz : z.natAbs < Bs ^ K) (hz' : z'.natAbs < Bs ^ K) :
    Calls Tryz.prog 128 #[.agg #[.int .i64 s, .bool neg, .slice A n c], .agg #[.int .i64 s', .bool neg', .slice A' n' c']] w (RetI (Nat.gcd z.natAbs z'.natAbs : Nat) w) := by
  have HS : Hid (∀ wx t b B m d x, RI wx t b B m d x → x.natAbs < Bs ^ K → Calls Tryz.prog 108 #[.agg #[.int .i64 t, .bool b, .slice B m d]] wx fun e w' => e = .returned (.int .i64 (sgnI x)) ∧ Below wx.heap.size wx w') := fun wx t b B m d x k1 k2 => rsign_any t b B m d x wx k1 (by have := k1.len k2; omega)
  have HA : Hid (∀ wx t b B m d x, RI wx t b B m d x → x.natAbs < Bs ^ K → Calls Tryz.prog 154 #[.agg #[.int .i64 t, .bool b, .slice B m d]] wx (RetI (x.natAbs : Int) wx)) := fun wx t b B m d x k1 k2 => rabs_any t b B m d x wx k1 (by have := k1.len k2; omega)
  have HO : Hid (∀ wx t b B m d x t' b' B' m' d' x', RI wx t b B m d x → RI wx t' b' B' m' d' x' → x.natAbs < Bs ^ K → x'.natAbs < Bs ^ K → x' ≠ 0 → Calls Tryz.prog 153 #[.agg #[.int .i64 t, .bool b, .slice B m d], .agg #[.int .i64 t', .bool b', .slice B' m' d']] wx (RetII (x.tdiv x') (x.tmod x') wx)) := fun wx t b B m d x t' b' B' m' d' x' k1 k2 k3 k4 k5 => rover_any t t' b b' B B' m d m' d' K x x' wx k1 k2 hK k3 k4 k5
  obtain ⟨D, hD⟩ : ∃ D, Nat.gcd z.natAbs z'.natAbs = D := ⟨_, rfl⟩
  obtain ⟨f, hf⟩ := bi_size (w.heap.size + 1)
  have HFn := Lib.hid hf
  have HST : Hid (∀ X, Below w.heap.size w X → B3 w.heap.size (.int .i64 s) (.bool neg) (.slice A n c) X → B3 (w.heap.size + 1) (.int .i64 s') (.bool neg') (.slice A' n' c') X → W3 w.heap.size X → W3 (w.heap.size + 1) X → W3 (w.heap.size + 1 + 1) X → GcL w K D X) := fun X k1 k2 k3 k4 k5 k6 =>
    ⟨z, z', k1, k4, k5, k6, ⟨s, neg, A, n, c, k2, h.keep k1⟩, ⟨s', neg', A', n', c', k3, h'.keep k1⟩, hz, hz', hD⟩
  rw [hD]
  clear h h' hK hz hz' hD hf
  go_enter Tryz.func128, Tryz.ntmps128
  go_wp2_with fail
  generalize hX : (((w.alloc _).alloc _).alloc _) = X
  have HX : Hid (GcL w K D X) := by
    subst hX
    refine HST.out _ ?_ ?_ ?_ ?_ ?_ ?_
    · exact (((Below.refl _ _).alloc (Nat.le_refl _) _).alloc (by simp) _).alloc (by simp; omega) _
    · simp [B3, go_sem]
    · simp [B3, go_sem]
    · exact ((W3.new w _ _ _ rfl).keep (below_alloc _ _)).keep (below_alloc _ _)
    · exact (W3.new _ _ _ _ (by simp)).keep (below_alloc _ _)
    · exact W3.new _ _ _ _ (by simp)
  clear hX HST
  go_loopw [] (fun wr => GcL w K D wr) (fun wr => f wr)
  case atStart => exact HX.out
  case round =>
    rename_i wr _
    obtain ⟨z1, z2, hbel, hW1, hW2, hW3, ⟨s1, n1, A1, m1, c1, ⟨a0, a1, a2, a3⟩, hRI1⟩, ⟨s2, n2, A2, m2, c2, ⟨d0, d1, d2, d3⟩, hRI2⟩, hz1, hz2, hD⟩ := hrel
    have HRI1 := Lib.hid hRI1
    have HRI2 := Lib.hid hRI2
    have HZ1 := Lib.hid hz1
    have HZ2 := Lib.hid hz2
    have HD := Lib.hid hD
    have HBel := Lib.hid hbel
    have HW1 := Lib.hid hW1
    have HW2 := Lib.hid hW2
    have HW3 := Lib.hid hW3
    clear hRI1 hRI2 hz1 hz2 hD hbel hW1 hW2 hW3 HX
    go_wp2_with fail
    (with_reducible refine (HS.out _ _ _ _ _ _ _ HRI2.out HZ2.out).mono ?_)
    rintro e w1 ⟨rfl, hB1⟩
    have HB1 := Lib.hid hB1
    obtain ⟨a0', a1', a2', a3'⟩ := B3.keep ⟨a0, a1, a2, a3⟩ hB1
    obtain ⟨d0', d1', d2', d3'⟩ := B3.keep ⟨d0, d1, d2, d3⟩ hB1
    have HM := Lib.hid (HFn.out wr z2 ⟨s2, n2, A2, m2, c2, ⟨d0, d1, d2, d3⟩, HRI2.out⟩)
    have HBa : Hid (B3 w.heap.size (.int .i64 s1) (.bool n1) (.slice A1 m1 c1) w1) := ⟨a0', a1', a2', a3'⟩
    have HBb : Hid (B3 (w.heap.size + 1) (.int .i64 s2) (.bool n2) (.slice A2 m2 c2) w1) := ⟨d0', d1', d2', d3'⟩
    have HBel1 := Lib.hid (HBel.out.trans (hB1.mono HBel.out.size))
    clear a0 a1 a2 a3 d0 d1 d2 d3 hB1
    by_cases h0 : z2 = 0
    · have g : (sgnI z2 != 0) = false := by rw [h0]; rfl
      generalize sgnI z2 = q2 at g ⊢
      go_wp2_with fail
      (with_reducible refine (HA.out _ _ _ _ _ _ _ (HRI1.out.keep HB1.out) HZ1.out).mono ?_)
      rintro e w2 ⟨s3, n3, A3, m3, c3, rfl, hRI, hB2⟩
      have HB2 := Lib.hid hB2
      have HRI := Lib.hid hRI
      obtain ⟨⟨o1, o2, o3, o4, o5, o6⟩, q1, q2', q3, q4⟩ := (HW3.out.keep HB1.out).keep hB2
      have HQ4 := Lib.hid q4
      have HE : Hid ((z1.natAbs : Int) = D) := by
        show _ = _
        have := HD.out
        rw [h0] at this
        rw [← this]
        simp
      clear hRI hB2 q4 a0' a1' a2' d0' d1' d2'
      go_wp2_with fail
      have hR := HRI.out
      rw [HE.out] at hR
      exact bodyPost_ret (v := .agg #[.int .i64 s3, .bool n3, .slice A3 m3 c3]) (by simp [results, Tryz.results128, go_sem, *]) rfl (retI_box hR HQ4.out (HBel1.out.trans (HB2.out.mono HBel1.out.size)) (by omega))
    · have g : (sgnI z2 != 0) = true := by
        rw [bne_iff_ne]
        unfold sgnI
        by_cases k : z2 < 0
        · rw [if_pos k]; decide
        · rw [if_neg k, if_neg h0]; decide
      generalize sgnI z2 = q2 at g ⊢
      go_wp2_with fail
      (with_reducible refine (HO.out _ _ _ _ _ _ _ _ _ _ _ _ _ (HRI1.out.keep HB1.out) (HRI2.out.keep HB1.out) HZ1.out HZ2.out h0).mono ?_)
      rintro e w2 ⟨s3, n3, A3, m3, c3, s4, n4, A4, m4, c4, rfl, hRI3, hRI4, hB2⟩
      have HB2 := Lib.hid hB2
      have HRI3 := Lib.hid hRI3
      have HRI4 := Lib.hid hRI4
      have HBel2 := Lib.hid (HBel1.out.trans (hB2.mono HBel1.out.size))
      have HBb2 := Lib.hid (HBb.out.keep hB2)
      have hlt : w.heap.size + 1 < w2.heap.size := Nat.lt_of_lt_of_le HBb.out.2.2.2 hB2.size
      clear hRI3 hRI4 hB2
      go_upto_region 3 with fail
      generalize hY : (w2.alloc _).alloc _ = Y
      have HY : Hid (Below w2.heap.size w2 Y ∧ B3 (w2.heap.size + 1) (.int .i64 s4) (.bool n4) (.slice A4 m4 c4) Y) := by
        subst hY
        exact ⟨((Below.refl _ _).alloc (Nat.le_refl _) _).alloc (by simp) _, by simp [B3, go_sem]⟩
      clear hY
      obtain ⟨y0, y1, y2, y3⟩ := HY.out.2
      obtain ⟨x0, x1, x2, x3⟩ := HBb2.out.keep HY.out.1
      have HWa := Lib.hid (((HW1.out.keep HB1.out).keep HB2.out).keep HY.out.1)
      have HWb := Lib.hid (((HW2.out.keep HB1.out).keep HB2.out).keep HY.out.1)
      have HWc := Lib.hid (((HW3.out.keep HB1.out).keep HB2.out).keep HY.out.1)
      obtain ⟨⟨o1, o2, o3, o4, o5, o6⟩, o7, o8, o9, -⟩ := HWa.out
      obtain ⟨⟨p1, p2, p3, p4, p5, p6⟩, p7, p8, p9, -⟩ := HWb.out
      have HR2 := Lib.hid (((HRI2.out.keep HB1.out).keep HB2.out).keep HY.out.1)
      have HR4 := Lib.hid (HRI4.out.keep HY.out.1)
      have HYB := Lib.hid (HBel2.out.trans (HY.out.1.mono HBel2.out.size))
      have HEND : Hid (∀ wf, Drn (set3 (set3 Y w.heap.size (.int .i64 s2) (.bool n2) (.slice A2 m2 c2)) (w.heap.size + 1) (.int .i64 s4) (.bool n4) (.slice A4 m4 c4)) wf → GcL w K D wf ∧ f wf < f wr) := fun wf hd =>
        GcL.next hd HYB.out HWa.out HWb.out HWc.out HR2.out HR4.out h0 HZ2.out HD.out HM.out HFn.out
      clear HM HBa HBb HBel1 HB2 HRI3 HRI4 HBel2 HBb2 HY HWc HR2 HR4 HYB a0' a1' a2' d0' d1' d2'
      go_region_with fail
      all_goals go_wp2_with fail
      all_goals exact HEND.out _ (by first | exact ⟨0, rfl⟩ | exact ⟨1, rfl⟩ | exact ⟨2, rfl⟩)

end Go.Proofs.YtabaknkjcoibpaaGreatDoor

namespace Go.Proofs.YtabaknkjcoibpaaGreatDoor
open Go.RowKit

/-- What From returns. -/
def fromV (p q : Int) : Value := if p.natAbs ≤ 1152921504606846976 ∧ q.natAbs ≤ 1152921504606846976 then .tuple #[.agg #[.int .i64 p, .int .i64 q], .bool true] else .tuple #[.agg #[.int .i64 0, .int .i64 0], .bool false]

set_option maxRecDepth 100000 in
set_option maxHeartbeats 8000000 in
theorem rfrom_aux (s s' u u' : Int) (neg neg' b b' : Bool) (A A' : Option Addr) (n c n' c' : Nat) (w : World)
    (h : ∀ wx, Below w.heap.size w wx → Calls Tryz.prog 69 #[.agg #[.int .i64 s, .bool neg, .slice A n c]] wx fun e w' => e = .returned (.tuple #[.int .i64 u, .bool b]) ∧ Below wx.heap.size wx w')
    (h' : ∀ wx, Below w.heap.size w wx → Calls Tryz.prog 69 #[.agg #[.int .i64 s', .bool neg', .slice A' n' c']] wx fun e w' => e = .returned (.tuple #[.int .i64 u', .bool b']) ∧ Below wx.heap.size wx w') :
    Calls Tryz.prog 196 #[.agg #[.int .i64 s, .bool neg, .slice A n c, .int .i64 s', .bool neg', .slice A' n' c']] w fun e w' => e = .returned (.tuple #[.agg #[.int .i64 (if b && b' then u else 0), .int .i64 (if b && b' then u' else 0)], .bool (b && b')]) ∧ Below w.heap.size w w' := by
  have HS1 := Lib.hid h
  have HS2 := Lib.hid h'
  clear h h'
  go_enter Tryz.func196, Tryz.ntmps196
  go_upto_region 1 with fail
  generalize hX : (w.alloc _).alloc _ = X
  have HX : Hid (Below w.heap.size w X) := by
    subst hX
    exact below_two w _ _
  obtain ⟨⟨k0, k1, k2, k3, k4, k5⟩, ⟨x0, x1, x2, x3⟩, z1⟩ : (X.cell? ⟨w.heap.size, 0, none⟩ = some (.int .i64 s) ∧ X.cell? ⟨w.heap.size, 1, none⟩ = some (.bool neg) ∧ X.cell? ⟨w.heap.size, 2, none⟩ = some (.slice A n c) ∧ X.cell? ⟨w.heap.size, 3, none⟩ = some (.int .i64 s') ∧ X.cell? ⟨w.heap.size, 4, none⟩ = some (.bool neg') ∧ X.cell? ⟨w.heap.size, 5, none⟩ = some (.slice A' n' c')) ∧
      (X.cell? ⟨w.heap.size + 1, 0, none⟩ = some (.int .i64 0) ∧ X.cell? ⟨w.heap.size + 1, 1, none⟩ = some (.int .i64 0) ∧ X.frozen? ⟨w.heap.size + 1, 0, none⟩ = false ∧ X.frozen? ⟨w.heap.size + 1, 1, none⟩ = false) ∧ w.heap.size + 1 < X.heap.size := by
    subst hX
    simp [go_sem]
  clear hX
  have z0 : w.heap.size < X.heap.size := by omega
  go_wp2_with fail
  (with_reducible refine (HS1.out _ HX.out).mono ?_)
  rintro e w1 ⟨rfl, hB1⟩
  have HB1 := Lib.hid (HX.out.trans (hB1.mono HX.out.size))
  have HB1' := Lib.hid hB1
  obtain ⟨C1, F1⟩ := bcell hB1
  have z0' : w.heap.size < w1.heap.size := Nat.lt_of_lt_of_le z0 hB1.size
  have z1' : w.heap.size + 1 < w1.heap.size := Nat.lt_of_lt_of_le z1 hB1.size
  rw [← C1 _ _ z0] at k0 k1 k2 k3 k4 k5
  rw [← C1 _ _ z1] at x0 x1
  rw [← F1 _ _ z1] at x2 x3
  clear C1 F1 hB1 z0 z1
  go_wp2_with fail
  (with_reducible refine (HS2.out _ HB1.out).mono ?_)
  rintro e w2 ⟨rfl, hB2⟩
  have HB2 := Lib.hid (HB1.out.trans (hB2.mono HB1.out.size))
  obtain ⟨C2, F2⟩ := bcell hB2
  rw [← C2 _ _ z0'] at k0 k1 k2 k3 k4 k5
  rw [← C2 _ _ z1'] at x0 x1
  rw [← F2 _ _ z1'] at x2 x3
  clear C2 F2 hB2 z0' z1' HB1'
  cases b
  · go_wp2_with fail
    exact bodyPost_ret (v := .tuple #[.agg #[.int .i64 0, .int .i64 0], .bool false]) (by simp [results, Tryz.results196, go_sem, *]) rfl ⟨rfl, (HB2.out.setCell (Nat.le_succ _) _).setCell (Nat.le_succ _) _⟩
  · cases b'
    · go_wp2_with fail
      exact bodyPost_ret (v := .tuple #[.agg #[.int .i64 0, .int .i64 0], .bool false]) (by simp [results, Tryz.results196, go_sem, *]) rfl ⟨rfl, (HB2.out.setCell (Nat.le_succ _) _).setCell (Nat.le_succ _) _⟩
    · go_wp2_with fail
      exact bodyPost_ret (v := .tuple #[.agg #[.int .i64 u, .int .i64 u'], .bool true]) (by simp [results, Tryz.results196, go_sem, *]) rfl ⟨rfl, (HB2.out.setCell (Nat.le_succ _) _).setCell (Nat.le_succ _) _⟩

theorem smallV_eq (z : Int) : ∃ u b, smallV z = .tuple #[.int .i64 u, .bool b] ∧ b = decide (z.natAbs ≤ 1152921504606846976) ∧ (b = true → u = z) := by
  unfold smallV
  by_cases h : z.natAbs ≤ 1152921504606846976
  · rw [if_pos h]
    exact ⟨z, true, rfl, (decide_eq_true h).symm, fun _ => rfl⟩
  · rw [if_neg h]
    exact ⟨0, false, rfl, (decide_eq_false h).symm, fun e => Bool.noConfusion e⟩

theorem rfrom_any (s s' : Int) (neg neg' : Bool) (A A' : Option Addr) (n c n' c' : Nat) (p q : Int) (w : World) (h : RI w s neg A n c p) (h' : RI w s' neg' A' n' c' q) (hn : n ≤ 1000000) (hn' : n' ≤ 1000000) :
    Calls Tryz.prog 196 #[.agg #[.int .i64 s, .bool neg, .slice A n c, .int .i64 s', .bool neg', .slice A' n' c']] w fun e w' => e = .returned (fromV p q) ∧ Below w.heap.size w w' := by
  obtain ⟨u, b, e1, e2, e3⟩ := smallV_eq p
  obtain ⟨u', b', f1, f2, f3⟩ := smallV_eq q
  have H := rfrom_aux s s' u u' neg neg' b b' A A' n c n' c' w (fun wx hb => by have := rsmall_any s neg A n c p wx (h.keep hb) hn; rw [e1] at this; exact this) (fun wx hb => by have := rsmall_any s' neg' A' n' c' q wx (h'.keep hb) hn'; rw [f1] at this; exact this)
  refine H.mono ?_
  rintro e w' ⟨rfl, hB⟩
  refine ⟨?_, hB⟩
  unfold fromV
  by_cases g : p.natAbs ≤ 1152921504606846976
  · have eb : b = true := by rw [e2]; exact decide_eq_true g
    by_cases g' : q.natAbs ≤ 1152921504606846976
    · have eb' : b' = true := by rw [f2]; exact decide_eq_true g'
      obtain rfl := e3 eb
      obtain rfl := f3 eb'
      rw [eb, eb', if_pos (And.intro g g')]
      rfl
    · have eb' : b' = false := by rw [f2]; exact decide_eq_false g'
      rw [eb', Bool.and_false, if_neg (show ¬(p.natAbs ≤ 1152921504606846976 ∧ q.natAbs ≤ 1152921504606846976) from fun k => g' k.2)]
      rfl
  · have eb : b = false := by rw [e2]; exact decide_eq_false g
    rw [eb, Bool.false_and, if_neg (show ¬(p.natAbs ≤ 1152921504606846976 ∧ q.natAbs ≤ 1152921504606846976) from fun k => g k.1)]
    rfl

end Go.Proofs.YtabaknkjcoibpaaGreatDoor
