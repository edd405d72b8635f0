/- The product of integers of the reference in memory. -/
import Derived.Test.YtmfnpipmbpnfbaaGreatDoorF15
import Derived.Laws.CopyOwn
import Derived.Deep.RegionLawGrows

set_option maxRecDepth 100000
set_option maxHeartbeats 40000000
namespace Go.Proofs.YtmfnpipmbpnfbaaGreatDoor
open Go.RowKit
theorem val_set {l : List Nat} {j : Nat} (hj : j < l.length) (d : Nat) : val (l.set j d) + Bs ^ j * l.getD j 0 = val l + Bs ^ j * d := by
  have h1 : val (l.set j d) = val ((l.set j d).take j) + Bs ^ j * ((l.set j d).getD j 0 + Bs * val ((l.set j d).drop (j + 1))) := by
    rw [← val_drop (by rw [List.length_set]; exact hj)]
    exact val_split _ (by rw [List.length_set]; omega)
  have h2 : val l = val (l.take j) + Bs ^ j * (l.getD j 0 + Bs * val (l.drop (j + 1))) := by
    rw [← val_drop hj]
    exact val_split _ (by omega)
  have e1 : (l.set j d).take j = l.take j := by rw [List.take_set_of_le (Nat.le_refl _)]
  have e2 : (l.set j d).drop (j + 1) = l.drop (j + 1) := by rw [List.drop_set_of_lt (by omega)]
  have e3 : (l.set j d).getD j 0 = d := by rw [getD_set _ _ _ _ hj, if_pos rfl]
  rw [e1, e2, e3] at h1
  rw [h1, h2, Nat.mul_add, Nat.mul_add]
  omega
def TimO (w0 : World) (G : Nat) (lx ly : List Nat) (i : Value) (wr : World) : Prop :=
  ∃ (p : Nat) (o : List Nat), p ≤ lx.length ∧ i = .int .i64 (p : Int) ∧ o.length = lx.length + ly.length ∧ RowI wr G o ∧ Dl o ∧ (∀ j, p + ly.length ≤ j → o.getD j 0 = 0) ∧ val o = val (lx.take p) * val ly ∧ Below w0.heap.size w0 wr
def TimN (w0 : World) (G : Nat) (lx ly : List Nat) (p : Nat) (c k : Value) (wr : World) : Prop :=
  ∃ (q r : Nat) (o : List Nat), q ≤ ly.length ∧ k = .int .i64 (q : Int) ∧ c = .int .i64 (r : Int) ∧ r < Bs ∧ o.length = lx.length + ly.length ∧ RowI wr G o ∧ Dl o ∧ (∀ j, p + ly.length ≤ j → o.getD j 0 = 0) ∧
    val o + Bs ^ (p + q) * r = val (lx.take p) * val ly + Bs ^ p * (lx.getD p 0 * val (ly.take q)) ∧ Below w0.heap.size w0 wr
theorem TimN.next {w0 wr w' : World} {G p q r : Nat} {lx ly o : List Nat} (hx : Dl lx) (hy : Dl ly) (hp : p < lx.length) (hq : q < ly.length) (hr : r < Bs) (ho : o.length = lx.length + ly.length) (hrow : RowI wr G o) (hd : Dl o) (hz : ∀ j, p + ly.length ≤ j → o.getD j 0 = 0)
    (hv : val o + Bs ^ (p + q) * r = val (lx.take p) * val ly + Bs ^ p * (lx.getD p 0 * val (ly.take q))) (hbel : Below w0.heap.size w0 wr) (hG : w0.heap.size ≤ G) {N : Nat} {X C K : Int} {c k : Value}
    (hX : X = (((r + (o.getD (p + q) 0 + lx.getD p 0 * ly.getD q 0)) % Bs : Nat) : Int)) (hw : w' = (wr.drewN N).setCell ⟨G, p + q, none⟩ (.int .i64 X)) (hc : c = .int .i64 C) (hC : C = (((r + (o.getD (p + q) 0 + lx.getD p 0 * ly.getD q 0)) / Bs : Nat) : Int)) (hk : k = .int .i64 K) (hK : K = ((q + 1 : Nat) : Int)) : TimN w0 G lx ly p c k w' := by
  subst hX hw hc hC hk hK
  have h1 := hx.getD p
  have h2 := hy.getD q
  have h3 := hd.getD (p + q)
  have hpq : p + q < o.length := by omega
  have hxy := sca_bd h1 h2
  have hdm := Nat.div_add_mod (r + (o.getD (p + q) 0 + lx.getD p 0 * ly.getD q 0)) Bs
  have hvs := val_set hpq ((r + (o.getD (p + q) 0 + lx.getD p 0 * ly.getD q 0)) % Bs)
  refine ⟨q + 1, (r + (o.getD (p + q) 0 + lx.getD p 0 * ly.getD q 0)) / Bs, o.set (p + q) ((r + (o.getD (p + q) 0 + lx.getD p 0 * ly.getD q 0)) % Bs), hq, rfl, rfl, ?_, by rw [List.length_set]; exact ho, (hrow.drewN N).set hpq _, hd.set _ (Nat.mod_lt _ Bs_pos), fun j hj => ?_, ?_, ?_⟩
  · rw [Bs_eq] at hr h3 ⊢
    omega
  · rw [getD_set _ _ _ _ hpq, if_neg (by omega)]
    exact hz j hj
  · rw [val_take_succ, show p + (q + 1) = (p + q) + 1 from rfl, Nat.pow_succ]
    generalize o.getD (p + q) 0 = od at *
    generalize lx.getD p 0 = xd at *
    generalize ly.getD q 0 = yd at *
    generalize hT : xd * yd = T at *
    have e1 : Bs ^ (p + q) * (Bs * ((r + (od + T)) / Bs) + (r + (od + T)) % Bs) = Bs ^ (p + q) * (r + (od + T)) := by rw [hdm]
    rw [Nat.mul_add xd, Nat.mul_add (Bs ^ p)]
    have e2 : Bs ^ p * (xd * (Bs ^ q * yd)) = Bs ^ (p + q) * T := by
      rw [Nat.pow_add, ← hT, Nat.mul_assoc, Nat.mul_left_comm xd]
    simp only [Nat.mul_add] at e1
    rw [Nat.mul_assoc]
    generalize (r + (od + T)) % Bs = u at *
    generalize (r + (od + T)) / Bs = v at *
    omega
  · have h : Below w0.heap.size w0 (wr.drewN N) := ⟨hbel.os, hbel.tape, hbel.output, hbel.size, hbel.block⟩
    exact h.setCell hG _
theorem TimO.next {w0 wr w' : World} {G p r : Nat} {lx ly o : List Nat} (hp : p < lx.length) (hr : r < Bs) (ho : o.length = lx.length + ly.length) (hrow : RowI wr G o) (hd : Dl o) (hz : ∀ j, p + ly.length ≤ j → o.getD j 0 = 0)
    (hv : val o + Bs ^ (p + ly.length) * r = val (lx.take p) * val ly + Bs ^ p * (lx.getD p 0 * val (ly.take ly.length))) (hbel : Below w0.heap.size w0 wr) (hG : w0.heap.size ≤ G) {I : Int} {i : Value}
    (hw : w' = wr.setCell ⟨G, p + ly.length, none⟩ (.int .i64 (r : Int))) (hi : i = .int .i64 I) (hI : I = ((p + 1 : Nat) : Int)) : TimO w0 G lx ly i w' := by
  subst hw hi hI
  have hpq : p + ly.length < o.length := by omega
  have hvs := val_set hpq r
  rw [hz _ (Nat.le_refl _), Nat.mul_zero, Nat.add_zero] at hvs
  refine ⟨p + 1, o.set (p + ly.length) r, hp, rfl, by rw [List.length_set]; exact ho, hrow.set hpq r, hd.set _ hr, fun j hj => ?_, ?_, hbel.setCell hG _⟩
  · rw [getD_set _ _ _ _ hpq, if_neg (by omega)]
    exact hz j (by omega)
  · rw [hvs, hv, val_take_succ, List.take_length, Nat.add_mul, Nat.mul_assoc]
theorem TimO.start {w0 wr : World} {G : Nat} {lx ly : List Nat} (hrow : RowI wr G (List.replicate (lx.length + ly.length) 0)) (hbel : Below w0.heap.size w0 wr) : TimO w0 G lx ly (.int .i64 0) wr :=
  ⟨0, _, Nat.zero_le _, rfl, by simp, hrow, Dl.zeros _, fun j _ => by simp only [List.getD_eq_getElem?_getD, List.getElem?_replicate]; split <;> rfl, by
    have h : ∀ k, val (List.replicate k 0) = 0 := fun k => by
      induction k with
      | zero => rfl
      | succ k ih => rw [List.replicate_succ, val, ih]; rfl
    rw [h]; simp [val], hbel⟩
theorem TimN.start {w0 wr : World} {G p : Nat} {lx ly o : List Nat} (ho : o.length = lx.length + ly.length) (hrow : RowI wr G o) (hd : Dl o) (hz : ∀ j, p + ly.length ≤ j → o.getD j 0 = 0) (hv : val o = val (lx.take p) * val ly) (hbel : Below w0.heap.size w0 wr) : TimN w0 G lx ly p (.int .i64 0) (.int .i64 0) wr :=
  ⟨0, 0, o, Nat.zero_le _, rfl, rfl, Bs_pos, ho, hrow, hd, hz, by rw [hv]; simp [val], hbel⟩
theorem rtimes_small (s s' : Int) (A A' : Option Addr) (c c' : Nat) (w : World) (h1 : -1073741824 < s) (h2 : s < 1073741824) (h3 : -1073741824 < s') (h4 : s' < 1073741824) :
    Calls Tryz.prog 106 #[.agg #[.int .i64 s, .bool false, .slice A 0 c], .agg #[.int .i64 s', .bool false, .slice A' 0 c']] w (RetI (s * s') w) := by
  obtain ⟨T, hT⟩ : ∃ T, s * s' = T := ⟨_, rfl⟩
  have hb : T.natAbs ≤ 1152921502459363329 := by
    rw [← hT, Int.natAbs_mul]
    have := Nat.mul_le_mul (show s.natAbs ≤ 1073741823 by omega) (show s'.natAbs ≤ 1073741823 by omega)
    omega
  have hb1 : -1152921502459363329 ≤ T := by omega
  have hb2 : T ≤ 1152921502459363329 := by omega
  have HR : Hid (∀ wx, Below w.heap.size w wx → RetI T w (.returned (.agg #[.int .i64 T, .bool false, .slice none 0 0])) wx) := fun wx hb => retI (RI.small wx (by rw [Edge_eq]; omega) none 0 (Nat.zero_le _)) hb
  have g1 := decide_eq_true h1
  have g2 := decide_eq_true h2
  have g3 := decide_eq_true h3
  have g4 := decide_eq_true h4
  have hw : IntKind.i64.wrap T = T := IntWalk.i64_in _ (by omega)
  have hw2 : IntKind.i64.wrap (s * s') = T := by rw [hT]; exact hw
  rw [hT]
  clear hb h1 h2 h3 h4
  go_enter Tryz.func106, Tryz.ntmps106
  go_wp2_with fail
  exact bodyPost_ret (v := .agg #[.int .i64 T, .bool false, .slice none 0 0]) (by simp [results, Tryz.results106, go_sem]) rfl (HR.out _ ((below_two w _ _).alloc (by simp; omega) _))
theorem sgz_mul (z z' : Int) : sgz (sgnI z != sgnI z') (z.natAbs * z'.natAbs) = z * z' := by
  have e : ∀ x y : Nat, ((x * y : Nat) : Int) = (x : Int) * (y : Int) := fun x y => Int.natCast_mul x y
  rcases Int.lt_trichotomy z 0 with h | h | h <;> rcases Int.lt_trichotomy z' 0 with h' | h' | h'
  all_goals
    first
      | (subst h; simp [sgz])
      | (subst h'; simp [sgz])
      | skip
  · obtain ⟨x, hx⟩ : ∃ x : Nat, z = -(x : Int) := ⟨z.natAbs, by omega⟩
    obtain ⟨y, hy⟩ : ∃ y : Nat, z' = -(y : Int) := ⟨z'.natAbs, by omega⟩
    have e1 : sgnI z = -1 := if_pos h
    have e2 : sgnI z' = -1 := if_pos h'
    rw [e1, e2, hx, hy, Int.natAbs_neg, Int.natAbs_neg, Int.natAbs_natCast, Int.natAbs_natCast, Int.neg_mul_neg, ← e]
    rfl
  · obtain ⟨x, hx⟩ : ∃ x : Nat, z = -(x : Int) := ⟨z.natAbs, by omega⟩
    obtain ⟨y, hy⟩ : ∃ y : Nat, z' = (y : Int) := ⟨z'.natAbs, by omega⟩
    have e1 : sgnI z = -1 := if_pos h
    have e2 : sgnI z' = 1 := by unfold sgnI; rw [if_neg (by omega), if_neg (by omega)]
    rw [e1, e2, hx, hy, Int.natAbs_neg, Int.natAbs_natCast, Int.natAbs_natCast, Int.neg_mul, ← e]
    rfl
  · obtain ⟨x, hx⟩ : ∃ x : Nat, z = (x : Int) := ⟨z.natAbs, by omega⟩
    obtain ⟨y, hy⟩ : ∃ y : Nat, z' = -(y : Int) := ⟨z'.natAbs, by omega⟩
    have e1 : sgnI z = 1 := by unfold sgnI; rw [if_neg (by omega), if_neg (by omega)]
    have e2 : sgnI z' = -1 := if_pos h'
    rw [e1, e2, hx, hy, Int.natAbs_neg, Int.natAbs_natCast, Int.natAbs_natCast, Int.mul_neg, ← e]
    rfl
  · obtain ⟨x, hx⟩ : ∃ x : Nat, z = (x : Int) := ⟨z.natAbs, by omega⟩
    obtain ⟨y, hy⟩ : ∃ y : Nat, z' = (y : Int) := ⟨z'.natAbs, by omega⟩
    have e1 : sgnI z = 1 := by unfold sgnI; rw [if_neg (by omega), if_neg (by omega)]
    have e2 : sgnI z' = 1 := by unfold sgnI; rw [if_neg (by omega), if_neg (by omega)]
    rw [e1, e2, hx, hy, Int.natAbs_natCast, Int.natAbs_natCast, ← e]
    rfl
theorem rtimes_big (s s' : Int) (neg neg' : Bool) (A A' : Option Addr) (n c n' c' K : Nat) (z z' : Int) (w : World) (h : RI w s neg A n c z) (h' : RI w s' neg' A' n' c' z') (hK : K ≤ 250000) (hz : z.natAbs < Bs ^ K) (hz' : z'.natAbs < Bs ^ K)
    (hg : (((n : Int) == 0) = false) ∨ (((n : Int) == 0) = true ∧ ((n' : Int) == 0) = false) ∨ (((n : Int) == 0) = true ∧ ((n' : Int) == 0) = true ∧ decide (-1073741824 < s) = false) ∨
      (((n : Int) == 0) = true ∧ ((n' : Int) == 0) = true ∧ decide (-1073741824 < s) = true ∧ decide (s < 1073741824) = false) ∨
      (((n : Int) == 0) = true ∧ ((n' : Int) == 0) = true ∧ decide (-1073741824 < s) = true ∧ decide (s < 1073741824) = true ∧ decide (-1073741824 < s') = false) ∨
      (((n : Int) == 0) = true ∧ ((n' : Int) == 0) = true ∧ decide (-1073741824 < s) = true ∧ decide (s < 1073741824) = true ∧ decide (-1073741824 < s') = true ∧ decide (s' < 1073741824) = false)) :
    Calls Tryz.prog 106 #[.agg #[.int .i64 s, .bool neg, .slice A n c], .agg #[.int .i64 s', .bool neg', .slice A' n' c']] w (RetI (z * z') w) := by
  have hn := h.len hz
  have hn' := h'.len hz'
  have HL1 : Hid (∀ wx, Below w.heap.size w wx → Calls Tryz.prog 134 #[.agg #[.int .i64 s, .bool neg, .slice A n c]] wx (RetL (fun l => Nz l ∧ val l = z.natAbs) wx)) := fun wx hb => rlist_any s neg A n c z wx (h.keep hb) (by omega)
  have HL2 : Hid (∀ wx, Below w.heap.size w wx → Calls Tryz.prog 134 #[.agg #[.int .i64 s', .bool neg', .slice A' n' c']] wx (RetL (fun l => Nz l ∧ val l = z'.natAbs) wx)) := fun wx hb => rlist_any s' neg' A' n' c' z' wx (h'.keep hb) (by omega)
  obtain ⟨q1, hq1⟩ : ∃ q1, sgnI z = q1 := ⟨_, rfl⟩
  obtain ⟨q2, hq2⟩ : ∃ q2, sgnI z' = q2 := ⟨_, rfl⟩
  have HS1 : Hid (∀ wx, Below w.heap.size w wx → Calls Tryz.prog 108 #[.agg #[.int .i64 s, .bool neg, .slice A n c]] wx fun e w' => e = .returned (.int .i64 q1) ∧ Below wx.heap.size wx w') := fun wx hb => by
    rw [← hq1]; exact rsign_any s neg A n c z wx (h.keep hb) (by omega)
  have HS2 : Hid (∀ wx, Below w.heap.size w wx → Calls Tryz.prog 108 #[.agg #[.int .i64 s', .bool neg', .slice A' n' c']] wx fun e w' => e = .returned (.int .i64 q2) ∧ Below wx.heap.size wx w') := fun wx hb => by
    rw [← hq2]; exact rsign_any s' neg' A' n' c' z' wx (h'.keep hb) (by omega)
  obtain ⟨b, hb⟩ : ∃ b, (q1 != q2) = b := ⟨_, rfl⟩
  have HBB : Hid (sgz b (z.natAbs * z'.natAbs) = z * z') := by
    show _ = _
    rw [← hb, ← hq1, ← hq2]
    exact sgz_mul z z'
  have HB := Lib.hid hb
  have HZ1 := Lib.hid hz
  have HZ2 := Lib.hid hz'
  have HK := Lib.hid hK
  clear h h' hn hn' hq1 hq2 hz hz' hK hb
  go_enter Tryz.func106, Tryz.ntmps106
  go_upto_region 1 with fail
  obtain ⟨X, hX, hwX, hsX, ⟨k0, k1, k2, za⟩, ⟨j0, j1, j2, zb⟩, hW⟩ := boxesI w (.int .i64 s) (.bool neg) (.slice A n c) (.int .i64 s') (.bool neg') (.slice A' n' c')
  rw [hX]
  clear hX
  have HwX := Lib.hid hwX
  have HW := Lib.hid hW
  clear hsX hwX hW
  go_cut [40] (fun t wx => t = .bool false ∧ X = wx)
  case first =>
    rcases hg with g1 | ⟨g1, g2⟩ | ⟨g1, g2, g3⟩ | ⟨g1, g2, g3, g4⟩ | ⟨g1, g2, g3, g4, g5⟩ | ⟨g1, g2, g3, g4, g5, g6⟩
    all_goals go_wp2_with fail
    all_goals go_meet
    all_goals exact ⟨rfl, rfl⟩
  case rest =>
    obtain ⟨rfl, rfl⟩ := hcut
    clear hg
    go_upto_region 3 with fail
    go_region_held3 (fun w' => w'.cell? ⟨w.heap.size, 0, none⟩ = some (.int .i64 s) ∧ w'.cell? ⟨w.heap.size, 1, none⟩ = some (.bool neg) ∧ w'.cell? ⟨w.heap.size, 2, none⟩ = some (.slice A n c) ∧ w'.cell? ⟨w.heap.size + 1, 0, none⟩ = some (.int .i64 s') ∧ w'.cell? ⟨w.heap.size + 1, 1, none⟩ = some (.bool neg') ∧ w'.cell? ⟨w.heap.size + 1, 2, none⟩ = some (.slice A' n' c')) (simp [go_sem, *])
      (first
        | (go_at_call 134; (with_reducible refine (HL1.out _ (by repeat (first | exact HwX.out | exact HW1.out | refine Below.drew ?_))).mono ?_); rintro e w1 ⟨v1, l1, rfl, hl1, hp1, hB1⟩; obtain ⟨A1, c1, rfl, hlc1, hdl1, hC1⟩ := hl1; (have R1 : Below X.heap.size X w1 := by first | exact hB1 | exact below_undrew' hB1); have C1 := (bcell R1).1; have HR1 := Lib.hid R1; have HW1 := Lib.hid (HwX.out.trans (R1.mono HwX.out.size)); have HC1a := Lib.hid hC1; have HDl1 := Lib.hid hdl1; have HP1 := Lib.hid hp1; clear R1 hC1 hdl1 hlc1 hp1 hB1)
        | (go_at_call 134; (with_reducible refine (HL2.out _ (by repeat (first | exact HwX.out | exact HW1.out | refine Below.drew ?_))).mono ?_); rintro e w2 ⟨v2, l2, rfl, hl2, hp2, hB2⟩; obtain ⟨A2, c2, rfl, hlc2, hdl2, hC2⟩ := hl2; (have R2 : Below w1.heap.size w1 w2 := by first | exact hB2 | exact below_undrew' hB2); have HR2 := Lib.hid (stepB HR1.out R2); have C2 := (bcell HR2.out).1; have HW2 := Lib.hid (HwX.out.trans (HR2.out.mono HwX.out.size)); have HC1 := Lib.hid (HC1a.out.keep R2); have HC2 := Lib.hid hC2; have HDl2 := Lib.hid hdl2; have HP2 := Lib.hid hp2; clear C1 R2 hC2 hdl2 hlc2 hp2 hB2))
    have HN1 := Lib.hid (Nat.le_trans (len_of_val HP1.out.1 HP1.out.2 HZ1.out) HK.out)
    have HN2 := Lib.hid (Nat.le_trans (len_of_val HP2.out.1 HP2.out.2 HZ2.out) HK.out)
    have HK0 := Lib.hid (And.intro (And.intro k0 (And.intro k1 (And.intro k2 za))) (And.intro j0 (And.intro j1 (And.intro j2 zb))))
    clear k0 k1 k2 za j0 j1 j2 zb C2
    obtain ⟨m1, hm1⟩ : ∃ m1, l1.length = m1 := ⟨_, rfl⟩
    obtain ⟨m2, hm2⟩ : ∃ m2, l2.length = m2 := ⟨_, rfl⟩
    have bm1 : m1 ≤ 250000 := by rw [← hm1]; exact HN1.out
    have bm2 : m2 ≤ 250000 := by rw [← hm2]; exact HN2.out
    rw [hm1, hm2]
    have HM1 := Lib.hid hm1
    have HM2 := Lib.hid hm2
    clear hm1 hm2
    have hmk := make_rowI (m1 + m2) (by omega)
    have ec : ((m1 + m2 : Nat) : Int) = (m1 : Int) + m2 := by omega
    rw [ec] at hmk
    go_upto_region 5 with fail
    clear hmk ec
    have HY : Hid (RowI (w2.alloc (.cells (madeCells #[.int .i64 0] (m1 + m2)) 3)) w2.heap.size (List.replicate (l1.length + l2.length) 0)) := by rw [HM1.out, HM2.out]; exact RowI.new w2 (m1 + m2)
    go_wp2_with fail
    go_loopw [59] (fun i wr => TimO w2 w2.heap.size l1 l2 i wr) (fun i _ => m1 - (intOf i).toNat)
    case atStart => exact TimO.start HY.out (below_alloc w2 _)
    case round =>
      obtain ⟨p, o, hp, rfl, ho, hrow, hd, hz, hv, hbel⟩ := hrel
      have hpm : p ≤ m1 := by rw [HM1.out] at hp; exact hp
      have HO := Lib.hid ho
      have HROW := Lib.hid hrow
      have HD := Lib.hid hd
      have HZ := Lib.hid hz
      have HV := Lib.hid hv
      have HBL := Lib.hid hbel
      clear hp ho hrow hd hz hv hbel HY
      by_cases hlt : p < m1
      · go_wp2_with fail
        go_loopw [9, 64] (fun c k wx => TimN w2 w2.heap.size l1 l2 p c k wx) (fun _ k _ => m2 - (intOf k).toNat)
        case atStart => exact TimN.start HO.out HROW.out HD.out HZ.out HV.out HBL.out
        case round =>
          rename_i wx _
          obtain ⟨q, r, o', hq, rfl, rfl, hr, ho', hrow', hd', hz', hv', hbel'⟩ := hrel
          have hqm : q ≤ m2 := by rw [HM2.out] at hq; exact hq
          have hr1 : r < 1073741824 := by rw [Bs_eq] at hr; exact hr
          have HO' := Lib.hid ho'
          have HROW' := Lib.hid hrow'
          have HD' := Lib.hid hd'
          have HZ' := Lib.hid hz'
          have HV' := Lib.hid hv'
          have HBL' := Lib.hid hbel'
          have HR := Lib.hid hr
          clear hq ho' hrow' hd' hz' hv' hbel' hr
          by_cases hq2 : q < m2
          · obtain ⟨ba, offa, rfl, -, hca⟩ := HC1.out.keep HBL'.out (by rw [HM1.out]; omega)
            obtain ⟨bb, offb, rfl, -, hcb⟩ := HC2.out.keep HBL'.out (by rw [HM2.out]; omega)
            have c1 := hca p (by rw [HM1.out]; exact hlt)
            have c2' := hcb q (by rw [HM2.out]; exact hq2)
            have c3 := HROW'.out.cell (i := p + q) (by rw [HO'.out, HM1.out, HM2.out]; omega)
            have f3 := HROW'.out.frozen (p + q)
            clear hca hcb
            obtain ⟨x, hx⟩ : ∃ x, l1.getD p 0 = x := ⟨_, rfl⟩
            obtain ⟨y, hy⟩ : ∃ y, l2.getD q 0 = y := ⟨_, rfl⟩
            obtain ⟨u, hu⟩ : ∃ u, o'.getD (p + q) 0 = u := ⟨_, rfl⟩
            have hx1 : x < 1073741824 := by have := HDl1.out.getD p; rw [Bs_eq, hx] at this; exact this
            have hy1 : y < 1073741824 := by have := HDl2.out.getD q; rw [Bs_eq, hy] at this; exact this
            have hu1 : u < 1073741824 := by have := HD'.out.getD (p + q); rw [Bs_eq, hu] at this; exact this
            rw [hx] at c1
            rw [hy] at c2'
            rw [hu] at c3
            obtain ⟨T, hT⟩ : ∃ T, x * y = T := ⟨_, rfl⟩
            have ht1 : T ≤ 1152921502459363329 := by rw [← hT]; exact sca_bd (by rw [Bs_eq]; exact hx1) (by rw [Bs_eq]; exact hy1)
            have hxy : (x : Int) * (y : Int) = (T : Int) := by rw [← hT]; exact (Int.natCast_mul x y).symm
            have HX := Lib.hid hx
            have HY := Lib.hid hy
            have HU := Lib.hid hu
            have HT := Lib.hid hT
            clear hx hy hu hT
            have hw1 : IntKind.i64.wrap ((p : Int) + (q : Int)) = (p : Int) + (q : Int) := IntWalk.i64_in _ (by omega)
            have hw2 : (0 : Int) ≤ (p : Int) + (q : Int) := by omega
            have hw3 : ((p : Int) + (q : Int)).toNat = p + q := by omega
            have hw4 : (p : Int) + (q : Int) < (m1 : Int) + (m2 : Int) := by omega
            go_wp2_with fail
            go_quiet (fail)
            go_wp2_with fail
            exact ⟨TimN.next HDl1.out HDl2.out (by rw [HM1.out]; exact hlt) (by rw [HM2.out]; exact hq2) HR.out HO'.out HROW'.out HD'.out HZ'.out HV'.out HBL'.out (Nat.le_refl _) (by rw [HX.out, HY.out, HU.out, HT.out, Bs_eq]; omega) rfl rfl (by rw [HX.out, HY.out, HU.out, HT.out, Bs_eq]; omega) rfl (by omega), by simp [intOf]; omega⟩
          · obtain rfl : q = m2 := by omega
            have c3 := HROW'.out.cell (i := p + q) (by rw [HO'.out, HM1.out, HM2.out]; omega)
            have f3 := HROW'.out.frozen (p + q)
            have hw4 : (p : Int) + (q : Int) < (m1 : Int) + (q : Int) := by omega
            go_wp2_with fail
            have hv2 := HV'.out
            rw [← HM2.out] at hv2
            exact ⟨TimO.next (by rw [HM1.out]; exact hlt) HR.out HO'.out HROW'.out HD'.out HZ'.out hv2 HBL'.out (Nat.le_refl _) (by rw [HM2.out]) rfl (by omega), by simp [intOf]; omega⟩
      · obtain rfl : p = m1 := by omega
        go_upto_region 18 with fail
        have HRX := Lib.hid (stepB HR2.out HBL.out)
        have C5 := (bcell HRX.out).1
        have HWX := Lib.hid (HwX.out.trans (HRX.out.mono HwX.out.size))
        obtain ⟨⟨k0, k1, k2, za⟩, ⟨j0, j1, j2, zb⟩⟩ := HK0.out
        have hb := HB.out
        go_region_held3 (fun w' => w'.cell? ⟨w.heap.size, 0, none⟩ = some (.int .i64 s) ∧ w'.cell? ⟨w.heap.size, 1, none⟩ = some (.bool neg) ∧ w'.cell? ⟨w.heap.size, 2, none⟩ = some (.slice A n c) ∧ w'.cell? ⟨w.heap.size + 1, 0, none⟩ = some (.int .i64 s') ∧ w'.cell? ⟨w.heap.size + 1, 1, none⟩ = some (.bool neg') ∧ w'.cell? ⟨w.heap.size + 1, 2, none⟩ = some (.slice A' n' c')) (simp [go_sem, *])
          (first
            | (go_at_call 108; (with_reducible refine (HS1.out _ (by repeat (first | exact HWX.out | exact HW3.out | exact HW4.out | refine Below.drew ?_))).mono ?_); rintro e w3 ⟨rfl, hB3⟩; (have R3 : Below wr.heap.size wr w3 := by first | exact hB3 | exact below_undrew' hB3); have HR3 := Lib.hid (stepB HRX.out R3); have HQ3 := Lib.hid R3; have C3 := (bcell HR3.out).1; have HW3 := Lib.hid (HwX.out.trans (HR3.out.mono HwX.out.size)); clear C5 R3 hB3)
            | (go_at_call 108; (with_reducible refine (HS2.out _ (by repeat (first | exact HWX.out | exact HW3.out | exact HW4.out | refine Below.drew ?_))).mono ?_); rintro e w4 ⟨rfl, hB4⟩; (have R4 : Below w3.heap.size w3 w4 := by first | exact hB4 | exact below_undrew' hB4); have HR4 := Lib.hid (stepB HR3.out R4); have HQ4 := Lib.hid (stepB HQ3.out R4); have C4 := (bcell HR4.out).1; have HW4 := Lib.hid (HwX.out.trans (HR4.out.mono HwX.out.size)); clear C3 R4 hB4)
            | (go_at_call 135; (with_reducible refine (made_any b (some ⟨w2.heap.size, 0, none⟩) (p + m2) (p + m2) o _ (by rw [HO.out, HM1.out, HM2.out]) (Nat.le_refl _) (by omega) HD.out (by first | exact (HROW.out.keep HQ4.out).lc | exact Lc.drew (HROW.out.keep HQ4.out).lc)).mono ?_); rintro e w5 ⟨s5, n5, A5, m5, c5, rfl, hRI5, hB5⟩; (have R5 : Below w4.heap.size w4 w5 := by first | exact hB5 | exact below_undrew' hB5); have HR5 := Lib.hid (stepB HR4.out R5); have C5 := (bcell HR5.out).1; have HRI5 := Lib.hid hRI5; clear C4 hRI5 hB5 R5; obtain ⟨⟨o1, o2, o3, o4, o5, o6⟩, r1, r2, r3, r4⟩ := HW.out.keep HR5.out; have HR4' := Lib.hid r4; clear r4))
        all_goals go_wp2_with fail
        all_goals exact bodyPost_ret (v := .agg #[.int .i64 s5, .bool n5, .slice A5 m5 c5]) (by simp [results, Tryz.results106, go_sem, *]) rfl (by
          have e : sgz b (val o) = z * z' := by
            have h1 := HV.out
            rw [← HM1.out, List.take_length, HP1.out.2, HP2.out.2] at h1
            rw [h1]
            exact HBB.out
          have hRI := HRI5.out
          rw [e] at hRI
          exact retI_box hRI HR4'.out (HwX.out.trans (HR5.out.mono HwX.out.size)) (by omega))
theorem rtimes_any (s s' : Int) (neg neg' : Bool) (A A' : Option Addr) (n c n' c' K : Nat) (z z' : Int) (w : World) (h : RI w s neg A n c z) (h' : RI w s' neg' A' n' c' z') (hK : K ≤ 250000) (hz : z.natAbs < Bs ^ K) (hz' : z'.natAbs < Bs ^ K) :
    Calls Tryz.prog 106 #[.agg #[.int .i64 s, .bool neg, .slice A n c], .agg #[.int .i64 s', .bool neg', .slice A' n' c']] w (RetI (z * z') w) := by
  by_cases hn : n = 0
  · have g1 : ((n : Int) == 0) = true := by rw [hn]; rfl
    by_cases hn' : n' = 0
    · have g2 : ((n' : Int) == 0) = true := by rw [hn']; rfl
      by_cases h1 : -1073741824 < s
      · by_cases h2 : s < 1073741824
        · by_cases h3 : -1073741824 < s'
          · by_cases h4 : s' < 1073741824
            · obtain ⟨l, -, -, -, -, ⟨-, rfl, rfl, -⟩ | ⟨h5, _⟩⟩ := h
              · obtain ⟨l', -, -, -, -, ⟨-, rfl, rfl, -⟩ | ⟨h5, _⟩⟩ := h'
                · subst hn hn'
                  exact rtimes_small s s' A A' c c' w h1 h2 h3 h4
                · omega
              · omega
            · exact rtimes_big s s' neg neg' A A' n c n' c' K z z' w h h' hK hz hz' (Or.inr (Or.inr (Or.inr (Or.inr (Or.inr ⟨g1, g2, decide_eq_true h1, decide_eq_true h2, decide_eq_true h3, decide_eq_false h4⟩)))))
          · exact rtimes_big s s' neg neg' A A' n c n' c' K z z' w h h' hK hz hz' (Or.inr (Or.inr (Or.inr (Or.inr (Or.inl ⟨g1, g2, decide_eq_true h1, decide_eq_true h2, decide_eq_false h3⟩)))))
        · exact rtimes_big s s' neg neg' A A' n c n' c' K z z' w h h' hK hz hz' (Or.inr (Or.inr (Or.inr (Or.inl ⟨g1, g2, decide_eq_true h1, decide_eq_false h2⟩))))
      · exact rtimes_big s s' neg neg' A A' n c n' c' K z z' w h h' hK hz hz' (Or.inr (Or.inr (Or.inl ⟨g1, g2, decide_eq_false h1⟩)))
    · exact rtimes_big s s' neg neg' A A' n c n' c' K z z' w h h' hK hz hz' (Or.inr (Or.inl ⟨g1, by rw [beq_eq_false_iff_ne]; omega⟩))
  · exact rtimes_big s s' neg neg' A A' n c n' c' K z z' w h h' hK hz hz' (Or.inl (by rw [beq_eq_false_iff_ne]; omega))
theorem est_le {U V : List Nat} {m : Nat} (hU : Dl U) (hul : U.length = m + 2) (hvl : V.length = m + 1) (hv1 : 0 < V.getD m 0) : val U / val V ≤ (U.getD (m + 1) 0 * Bs + U.getD m 0) / V.getD m 0 := by
  have hb := val_lt (hU.take m)
  rw [List.length_take, Nat.min_eq_left (by omega)] at hb
  have e1 : val U = val (U.take m) + Bs ^ m * (U.getD m 0 + Bs * U.getD (m + 1) 0) := by
    rw [val_split U (k := m) (by omega), val_drop (l := U) (k := m) (by omega), val_drop (l := U) (k := m + 1) (by omega), List.drop_of_length_le (by omega : U.length ≤ m + 1 + 1), val_nil, Nat.mul_zero, Nat.add_zero]
  have e2 : Bs ^ m * V.getD m 0 ≤ val V := by
    rw [val_split V (k := m) (by omega), val_drop (l := V) (k := m) (by omega), List.drop_of_length_le (by omega : V.length ≤ m + 1), val_nil, Nat.mul_zero, Nat.add_zero]
    omega
  generalize hT : U.getD m 0 + Bs * U.getD (m + 1) 0 = T at e1
  have hT2 : U.getD (m + 1) 0 * Bs + U.getD m 0 = T := by rw [← hT, Nat.mul_comm]; omega
  rw [hT2, Nat.le_div_iff_mul_le hv1]
  have h1 : val U / val V * val V ≤ val U := Nat.div_mul_le_self _ _
  have h2 : val U / val V * (Bs ^ m * V.getD m 0) ≤ val U / val V * val V := Nat.mul_le_mul_left _ e2
  have h3 : Bs ^ m * (val U / val V * V.getD m 0) < Bs ^ m * (T + 1) := by
    rw [Nat.mul_left_comm, Nat.mul_add, Nat.mul_one]
    omega
  have := Nat.lt_of_mul_lt_mul_left h3
  omega
theorem top_pos {l : List Nat} (hz : Nz l) (h : 0 < l.length) : 0 < l.getD (l.length - 1) 0 := by
  rcases hz with h1 | h1
  · rw [h1] at h; simp at h
  · omega
theorem Nz_of_ge {l : List Nat} (hd : Dl l) {k : Nat} (hl : l.length = k + 1) (h : Bs ^ k ≤ val l) : 0 < l.getD k 0 := by
  rcases Nat.eq_zero_or_pos (l.getD k 0) with h0 | h0
  · have h1 := val_lt (hd.take k)
    rw [List.length_take, Nat.min_eq_left (by omega)] at h1
    have h2 : val l = val (l.take k) := by
      have := val_take_succ l k
      rw [h0, Nat.mul_zero, Nat.add_zero, val_take_all (by omega)] at this
      exact this
    omega
  · exact h0
theorem fac_pos {t : Nat} (h : t < Bs) : 0 < Bs / (t + 1) := Nat.div_pos (by omega) (by omega)
theorem fac_lt {t : Nat} (h : 0 < t) : Bs / (t + 1) < 1073741824 := by
  rw [← Bs_eq]
  exact Nat.div_lt_self Bs_pos (by omega)
theorem fac_mul {l : List Nat} (hd : Dl l) {m : Nat} (hl : l.length = m + 1) : val l * (Bs / (l.getD m 0 + 1)) < Bs ^ (m + 1) := by
  have hb := val_lt (hd.take m)
  rw [List.length_take, Nat.min_eq_left (by omega)] at hb
  have e : val l = val (l.take m) + Bs ^ m * l.getD m 0 := by
    have := val_take_succ l m
    rw [val_take_all (by omega)] at this
    exact this
  have h1 : val l < Bs ^ m * (l.getD m 0 + 1) := by rw [Nat.mul_add, Nat.mul_one]; omega
  have hf : 0 < Bs / (l.getD m 0 + 1) := fac_pos (hd.getD m)
  have h2 : val l * (Bs / (l.getD m 0 + 1)) < Bs ^ m * (l.getD m 0 + 1) * (Bs / (l.getD m 0 + 1)) := Nat.mul_lt_mul_of_pos_right h1 hf
  have h3 : (l.getD m 0 + 1) * (Bs / (l.getD m 0 + 1)) ≤ Bs := Nat.mul_div_le _ _
  have h4 : Bs ^ m * ((l.getD m 0 + 1) * (Bs / (l.getD m 0 + 1))) ≤ Bs ^ m * Bs := Nat.mul_le_mul_left _ h3
  rw [← Nat.mul_assoc] at h4
  rw [Nat.pow_succ]
  omega
def Buf (w : World) (g : Nat) (l : List Nat) : Prop := ∃ cur : Array Value, w.heap[g]? = some (.cells cur 3 (0, 0)) ∧ l.length ≤ cur.size ∧ cur.toList.take l.length = l.map (fun (d : Nat) => .int .i64 (d : Int))
theorem Buf.lt {w : World} {g : Nat} {l : List Nat} (h : Buf w g l) : g < w.heap.size := by obtain ⟨cur, hc, _⟩ := h; exact lt_of_heap hc
theorem Buf.block {w w' : World} {g : Nat} {l : List Nat} (h : Buf w g l) (e : w'.heap[g]? = w.heap[g]?) : Buf w' g l := by obtain ⟨cur, hc, h2⟩ := h; exact ⟨cur, e.trans hc, h2⟩
theorem Buf.keep {w w' : World} {g : Nat} {l : List Nat} (h : Buf w g l) (hb : Below w.heap.size w w') : Buf w' g l := h.block (hb.block g h.lt)
theorem Buf.cell {w : World} {g : Nat} {l : List Nat} (h : Buf w g l) {i : Nat} (hi : i < l.length) : w.cell? ⟨g, i, none⟩ = some (.int .i64 ((l.getD i 0 : Nat) : Int)) := by
  obtain ⟨cur, hc, h1, h2⟩ := h
  rw [cell_of_row w g i cur 3 (0, 0) hc]
  have h3 : (cur.toList.take l.length)[i]? = (l.map (fun (d : Nat) => Value.int .i64 (d : Int)))[i]? := by rw [h2]
  rw [List.getElem?_take, if_pos hi] at h3
  simpa [List.getElem?_map, List.getD_eq_getElem?_getD, List.getElem?_eq_getElem hi] using h3
theorem Buf.lc {w : World} {g : Nat} {l : List Nat} (h : Buf w g l) : Lc w (some ⟨g, 0, none⟩) l := fun _ => by
  obtain ⟨cur, hc, _⟩ := id h
  exact ⟨g, 0, rfl, ⟨cur, (0, 0), hc⟩, fun i hi => by rw [Nat.zero_add]; exact h.cell hi⟩
theorem Buf.take {w : World} {g : Nat} {l : List Nat} (h : Buf w g l) (k : Nat) : Buf w g (l.take k) := by
  obtain ⟨cur, hc, h1, h2⟩ := h
  refine ⟨cur, hc, by rw [List.length_take]; omega, ?_⟩
  rw [List.map_take, ← h2, List.take_take, List.length_take]
theorem Buf.of {w : World} {B : Nat} {v : Value} {l : List Nat} (h : Own w B v l) (hl : 0 < l.length) : ∃ g cap, v = .slice (some ⟨g, 0, none⟩) l.length cap ∧ B ≤ g ∧ Buf w g l ∧ l.length ≤ cap ∧ cap ≤ 9223372036854775807 := by
  rcases h.2 with ⟨_, h0⟩ | ⟨g, cap, cur, h1, h2, h3, h4, h5, h6, h7⟩
  · omega
  · rw [Nat.mul_one] at h6 h7
    exact ⟨g, cap, h1, h2, ⟨cur, h3, by omega, h7⟩, h4, by unfold maxLen at h5; omega⟩
theorem info3s : (Tryz.prog.info? 3).map (·.size) = some 1 := by kernel_rfl
theorem wpList_copy_buf {ops : Array Oper} {rest : List Oper} {o : Oper} {a : Act} {w : World} {Q : Exit → Act → World → Prop} (hgd : o.guard = none) (d s : Operand)
    (ho : o.op = .call { callee := .builtin .copy, args := #[d, s], argTypes := #[25, 25] }) (g off dLen dCap : Nat) (ld lu : List Nat) (A : Option Addr) (c : Nat)
    (hd : a.eval d = .slice (some ⟨g, off, none⟩) dLen dCap) (hs : a.eval s = .slice A ld.length c) (hl : Lc w A ld) (hpos : 0 < ld.length) (hle : ld.length ≤ dLen) (hB : Buf w g lu) (hfit : off + ld.length ≤ lu.length)
    (h : ∀ w', Buf w' g (splice lu off ld) → (∀ k, k ≠ g → w'.heap[k]? = w.heap[k]?) → (∀ (B : Nat) (X : World), Below B X w → B ≤ g → Below B X w') → wpList Tryz.prog ops Q rest (a.put o.dst (goInt ld.length)) w') :
    wpList Tryz.prog ops Q (o :: rest) a w := by
  obtain ⟨cur, hc, h1, h2⟩ := hB
  obtain ⟨b, of, rfl, -, hcells⟩ := hl hpos
  have hlen : (ld.map (fun (d : Nat) => Value.int .i64 (d : Int))).length = ld.length := List.length_map _
  refine wpList_copy_own hgd d s 25 25 ho 3 Tryz.underlying25 info3s g off dLen dCap ⟨b, of, none⟩ ld.length c hd hs cur 3 hc (ld.map (fun (d : Nat) => .int .i64 (d : Int))) ?_ ?_ ?_ ?_ ?_
  · rw [hlen]; exact (Nat.min_eq_left hle).symm
  · intro j v hj
    rw [List.getElem?_map] at hj
    rcases Nat.lt_or_ge j ld.length with hjl | hjl
    · rw [List.getElem?_eq_getElem hjl] at hj
      simp at hj
      subst hj
      have := hcells j hjl
      simp only [List.getD_eq_getElem?_getD, List.getElem?_eq_getElem hjl, Option.getD_some] at this
      have hadd : (⟨b, of, none⟩ : Addr).add j = ⟨b, of + j, none⟩ := by unfold Addr.add; split <;> simp_all
      rw [hadd]
      exact this
    · rw [List.getElem?_eq_none hjl] at hj
      cases hj
  · rw [hlen]; omega
  · intro v hv
    obtain ⟨x, _, rfl⟩ := List.mem_map.1 hv
    rfl
  · rw [hlen]
    refine h _ ⟨_, setRow_heap w g _ _ 3 _ hc, ?_, ?_⟩ (fun k hk => setRow_other w g k _ hk) (fun B X hX hBg => below_setRow hX hBg _)
    · rw [length_splice _ _ _ hfit]
      simp only [List.size_toArray, List.length_append, List.length_take, List.length_drop, hlen, Array.length_toList]
      omega
    · have hsp : (splice lu off ld).length = lu.length := length_splice _ _ _ hfit
      rw [hsp]
      unfold splice
      rw [List.map_append, List.map_append, List.map_take, List.map_drop, ← h2]
      have e1 : off ≤ lu.length := by omega
      have e2 : off ≤ cur.toList.length := by rw [Array.length_toList]; omega
      rw [List.take_append, List.take_append, List.length_take, Nat.min_eq_left e2, List.take_take, Nat.min_eq_right e1, hlen, List.take_of_length_le (l := ld.map _) (by rw [hlen]; omega), List.take_take, Nat.min_eq_left e1, List.take_drop]
      rw [show off + ld.length + (lu.length - off - ld.length) = lu.length from by omega]
end Go.Proofs.YtmfnpipmbpnfbaaGreatDoor
