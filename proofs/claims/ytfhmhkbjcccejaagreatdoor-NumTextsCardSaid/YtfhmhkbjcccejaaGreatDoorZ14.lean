/- Ints as integers of the reference in memory. Division of integers of any size in memory. Integers of any size in memory: exact quotients, and the ones that fit. -/
import Derived.Test.YtfhmhkbjcccejaaGreatDoorZ13
import Derived.Test.YtfhmhkbjcccejaaGreatDoorZ09
import Derived.Deep.RegionWith
import Derived.BigRegion
import Derived.Test.YtfhmhkbjcccejaaGreatDoorZ10

namespace Go.Proofs.YtfhmhkbjcccejaaGreatDoor
open Go.RowKit

theorem Own.lit (w : World) {B : Nat} (hB : B ≤ w.heap.size) {X : Int} {d : Nat} (hX : X = (d : Int)) : Own (w.alloc (.cells #[.int .i64 X] 3)) B (.slice (some ⟨w.heap.size, 0, none⟩) 1 1) [d] := by
  subst hX
  exact ⟨rfl, Or.inr ⟨w.heap.size, 1, #[.int .i64 (d : Int)], rfl, hB, heap_alloc_new w _, Nat.le_refl _, by unfold maxLen; omega, rfl, rfl⟩⟩

/-- The same for a negative int. -/
def LstN (B : Nat) (w : World) (z : Nat) (m o : Value) (wr : World) : Prop :=
  ∃ (M : Int) (r : Nat) (l : List Nat), m = .int .i64 M ∧ Hid (M = -(r : Int)) ∧ Own wr B o l ∧ Dl l ∧ (r = 0 → Nz l) ∧ l.length ≤ 3 ∧ val l + Bs ^ l.length * r = z ∧ Below B w wr
theorem LstN.of {B : Nat} {w w' : World} {z r : Nat} {o m m' : Value} (h : LstR B w z o m' w') (h' : m' = .int .i64 (r : Int)) {M : Int} (hm : m = .int .i64 M) (hM : M = -(r : Int)) : LstN B w z m o w' := by
  obtain ⟨r', l, h1, h2⟩ := h
  rw [h'] at h1
  injection h1 with _ h1
  have : r = r' := by omega
  subst this
  exact ⟨M, r, l, hm, hM, h2⟩

theorem RI.list {w : World} {A : Option Addr} {n c : Nat} {l : List Nat} {z : Int} {v : Value} {B : Nat} (hown : Own w B v l) (hv : v = .slice A n c) (hd : Dl l) (hz : Nz l) (hval : val l = z.natAbs) (he : Edge ≤ z.natAbs) : RI w 0 (decide (z < 0)) A n c z := by
  obtain ⟨A', c', e, h1, h2, h3⟩ := hown.ls hd
  rw [hv] at e
  injection e with e1 e2 e3
  subst e1 e2 e3
  refine ⟨l, rfl, h1, hd, h3, Or.inr ⟨?_, rfl, rfl, hz, hval, he⟩⟩
  rcases List.eq_nil_or_concat l with h | ⟨_, _, h⟩
  · rw [h, val_nil] at hval; rw [← hval, Edge_eq] at he; omega
  · rw [h]; simp

theorem rof_small (n : Int) (w : World) (h : n.natAbs < Edge) : Calls Tryz.prog 36 #[.int .i64 n] w (RetI n w) := by
  rw [Edge_eq] at h
  have HR : Hid (∀ wx, Below w.heap.size w wx → RetI n w (.returned (.agg #[.int .i64 n, .bool false, .slice none 0 0])) wx) := fun wx hb => retI (RI.small wx (by rw [Edge_eq]; exact h) none 0 (Nat.zero_le _)) hb
  have h1 : decide (-2305843009213693952 < n) = true := decide_eq_true (by omega)
  have h2 : decide (n < 2305843009213693952) = true := decide_eq_true (by omega)
  clear h
  go_enter Tryz.func36, Tryz.ntmps36
  go_wp2_with fail
  exact bodyPost_ret (v := .agg #[.int .i64 n, .bool false, .slice none 0 0]) (by simp [results, Tryz.results36, go_sem]) rfl (HR.out _ (below_alloc w _))

set_option maxRecDepth 100000 in
set_option maxHeartbeats 4000000 in
theorem rof_pos (x : Nat) (w : World) (h1 : Edge ≤ x) (h2 : x ≤ 9223372036854775807) : Calls Tryz.prog 36 #[.int .i64 (x : Int)] w (RetI (x : Int) w) := by
  have HE := Lib.hid h1
  rw [Edge_eq] at h1
  have g1 : decide (-2305843009213693952 < (x : Int)) = true := decide_eq_true (by omega)
  have g2 : decide ((x : Int) < 2305843009213693952) = false := decide_eq_false (by omega)
  have gs : decide ((x : Int) < 0) = false := decide_eq_false (by omega)
  have HZZ : Hid (x < Bs ^ 3) := by
    show x < Bs ^ 3
    rw [Bs_eq]; omega
  have hmx : max ((x : Int) % 1073741824) (-((x : Int) % 1073741824)) = ((x % 1073741824 : Nat) : Int) := by omega
  have H2 := Lib.hid h2
  clear h1 
  go_enter Tryz.func36, Tryz.ntmps36
  go_upto_region 3 with fail
  generalize hX : w.alloc _ = X
  have HX : Hid (Below w.heap.size w X ∧ W3 w.heap.size X ∧ w.heap.size ≤ X.heap.size) := by
    subst hX
    exact ⟨below_alloc w _, W3.new w _ _ _ rfl, by simp⟩
  clear hX
  have hXs := HX.out.2.2
  go_wp2_with fail
  go_loopw [4, 5] (fun m o wr => LstR X.heap.size X x o m wr) (fun m _ _ => (intOf m).natAbs)
  case atStart => exact ⟨x / Bs, [x % Bs], rfl, Own.lit X (Nat.le_refl _) rfl, Dl.nil.snoc (Nat.mod_lt _ Bs_pos), fun h => absurd h (by rw [Bs_eq]; have := HE.out; rw [Edge_eq] at this; omega), by simp, by rw [val_one]; simp only [List.length_singleton, Nat.pow_one]; exact Nat.mod_add_div x Bs, below_alloc X _⟩
  case round =>
    obtain ⟨r, l, rfl, hown, hd, hnz, hl, hv, hbel⟩ := hrel
    have hrx : r ≤ x := by
      have : 1 * r ≤ Bs ^ l.length * r := Nat.mul_le_mul_right _ (Bs_pow_pos _)
      omega
    have hll : l.length ≤ 1000000 := by omega
    have hsz := hbel.size
    have HBL := Lib.hid hbel
    have HV := Lib.hid hv
    have HD := Lib.hid hd
    have HNZ := Lib.hid hnz
    clear hbel hv hd hnz hmx 
    rcases Nat.eq_zero_or_pos r with h0 | h0
    · subst h0
      skip
      obtain ⟨A', c', rfl, hlc, hd', hLc⟩ := hown.ls HD.out
      have hval : val l = x := by have := HV.out; rw [Nat.mul_zero] at this; omega
      have hln : 0 < l.length := by
        rcases List.eq_nil_or_concat l with h | ⟨_, _, h⟩
        · have h5 := HE.out
          rw [h, val_nil] at hval
          rw [← hval, Edge_eq] at h5
          omega
        · rw [h]; simp
      have HRI : Hid (RI wr 0 false A' l.length c' (x : Int)) := ⟨l, rfl, hlc, hd', hLc, Or.inr ⟨hln, rfl, gs.symm, HNZ.out (by trivial), by rw [hval]; omega, by have h5 := HE.out; omega⟩⟩
      have HTB := Lib.hid (HX.out.1.trans (HBL.out.mono hXs))
      obtain ⟨⟨p1, p2, p3, p4, p5, p6⟩, p7, p8, p9, p10⟩ := HX.out.2.1.keep HBL.out
      have HP10 := Lib.hid p10
      have HLN := Lib.hid hln
      clear p10 hlc hd' hLc hval hln
      go_wp2_with fail
      exact bodyPost_ret (v := .agg #[.int .i64 0, .bool false, .slice A' l.length c']) (by simp [results, Tryz.results36, go_sem, *]) rfl (retI_box HRI.out HP10.out HTB.out (Nat.le_refl _))
    · skip
      have hmr : max ((r : Int) % 1073741824) (-((r : Int) % 1073741824)) = ((r % 1073741824 : Nat) : Int) := by omega
      have hne : ((r : Int) != 0) = true := by rw [bne_iff_ne]; omega
      go_wp2_with (at_builtin; refine wpList_push rfl _ _ rfl X.heap.size _ l rfl (hown.alloc _) wr.heap.size rfl _ (cell_new _ _ _) (r % Bs) (by first | rfl | (rw [Bs_eq]; first | rfl | omega)) hll (by simp; omega) (fun v' w' hown' hkeep => ?_))
      have HO := Lib.hid hown'
      have HKp := Lib.hid (hkeep X (HBL.out.alloc hsz _))
      clear hown' hkeep
      go_wp2_with fail
      go_roundw
      case rel => exact LstR.next HZZ.out HD.out h0 HV.out HKp.out HO.out rfl (by rw [Bs_eq]; omega)
      case measure => simp [intOf]; omega

set_option maxRecDepth 100000 in
set_option maxHeartbeats 4000000 in
theorem rof_neg (x : Nat) (N : Int) (hN : N = -(x : Int)) (w : World) (h1 : Edge ≤ x) (h2 : x ≤ 9223372036854775808) : Calls Tryz.prog 36 #[.int .i64 N] w (RetI N w) := by
  have HE := Lib.hid h1
  have HN := Lib.hid hN
  rw [Edge_eq] at h1
  have g1 : decide (-2305843009213693952 < N) = false := decide_eq_false (by omega)
  have g2 : decide (N < 2305843009213693952) = true := decide_eq_true (by omega)
  have gs : decide (N < 0) = true := decide_eq_true (by omega)
  have HZZ : Hid (x < Bs ^ 3) := by
    show x < Bs ^ 3
    rw [Bs_eq]; omega
  obtain ⟨p, hp⟩ : ∃ p, x % 1073741824 = p := ⟨_, rfl⟩
  obtain ⟨q, hq⟩ : ∃ q, x / 1073741824 = q := ⟨_, rfl⟩
  have hp1 : p < 1073741824 := by omega
  have hq1 : q ≤ 8589934592 := by omega
  have e1 : N.tmod 1073741824 = -(p : Int) := by rw [hN, Int.neg_tmod, ← hp]; rfl
  have e2 : N.tdiv 1073741824 = -(q : Int) := by rw [hN, Int.neg_tdiv, ← hq]; rfl
  have HP := Lib.hid hp
  have HQ := Lib.hid hq
  clear hp hq
  have hmx : max (-(p : Int)) (p : Int) = (p : Int) := by omega
  have H2 := Lib.hid h2
  clear h1 h2 hN
  go_enter Tryz.func36, Tryz.ntmps36
  go_upto_region 3 with fail
  generalize hX : w.alloc _ = X
  have HX : Hid (Below w.heap.size w X ∧ W3 w.heap.size X ∧ w.heap.size ≤ X.heap.size) := by
    subst hX
    exact ⟨below_alloc w _, W3.new w _ _ _ rfl, by simp⟩
  clear hX
  have hXs := HX.out.2.2
  go_wp2_with fail
  go_loopw [4, 5] (fun m o wr => LstN X.heap.size X x m o wr) (fun m _ _ => (intOf m).natAbs)
  case atStart => exact ⟨-(q : Int), q, [p], rfl, rfl, Own.lit X (Nat.le_refl _) rfl, Dl.nil.snoc (by rw [Bs_eq]; exact hp1), fun h => absurd h (by have := HE.out; have h7 := HQ.out; rw [Edge_eq] at this; omega), by simp, by rw [val_one]; simp only [List.length_singleton, Nat.pow_one]; have h7 := HP.out; have h8 := HQ.out; rw [Bs_eq]; omega, below_alloc X _⟩
  case round =>
    obtain ⟨M, r, l, rfl, hM, hown, hd, hnz, hl, hv, hbel⟩ := hrel
    have hrx : r ≤ x := by
      have : 1 * r ≤ Bs ^ l.length * r := Nat.mul_le_mul_right _ (Bs_pow_pos _)
      omega
    have hll : l.length ≤ 1000000 := by omega
    have hsz := hbel.size
    have HBL := Lib.hid hbel
    have HV := Lib.hid hv
    have HD := Lib.hid hd
    have HNZ := Lib.hid hnz
    clear hbel hv hd hnz hmx e1 e2 hp1 hq1 HP HQ
    rcases Nat.eq_zero_or_pos r with h0 | h0
    · subst h0
      have hM0 : M = 0 := by have := hM.out; omega
      subst hM0
      obtain ⟨A', c', rfl, hlc, hd', hLc⟩ := hown.ls HD.out
      have hval : val l = x := by have := HV.out; rw [Nat.mul_zero] at this; omega
      have hln : 0 < l.length := by
        rcases List.eq_nil_or_concat l with h | ⟨_, _, h⟩
        · have h5 := HE.out
          rw [h, val_nil] at hval
          rw [← hval, Edge_eq] at h5
          omega
        · rw [h]; simp
      have HRI : Hid (RI wr 0 true A' l.length c' N) := ⟨l, rfl, hlc, hd', hLc, Or.inr ⟨hln, rfl, gs.symm, HNZ.out (by trivial), by rw [hval]; have h6 := HN.out; omega, by have h5 := HE.out; have h6 := HN.out; omega⟩⟩
      have HTB := Lib.hid (HX.out.1.trans (HBL.out.mono hXs))
      obtain ⟨⟨p1, p2, p3, p4, p5, p6⟩, p7, p8, p9, p10⟩ := HX.out.2.1.keep HBL.out
      have HP10 := Lib.hid p10
      have HLN := Lib.hid hln
      clear p10 hlc hd' hLc hval hln
      go_wp2_with fail
      exact bodyPost_ret (v := .agg #[.int .i64 0, .bool true, .slice A' l.length c']) (by simp [results, Tryz.results36, go_sem, *]) rfl (retI_box HRI.out HP10.out HTB.out (Nat.le_refl _))
    · skip
      obtain ⟨p, hp⟩ : ∃ p, r % 1073741824 = p := ⟨_, rfl⟩
      obtain ⟨q, hq⟩ : ∃ q, r / 1073741824 = q := ⟨_, rfl⟩
      have hp1 : p < 1073741824 := by omega
      have hq1 : q ≤ 8589934592 := by have := H2.out; omega
      have e1 : M.tmod 1073741824 = -(p : Int) := by rw [hM.out, Int.neg_tmod, ← hp]; rfl
      have e2 : M.tdiv 1073741824 = -(q : Int) := by rw [hM.out, Int.neg_tdiv, ← hq]; rfl
      have HP := Lib.hid hp
      have HQ := Lib.hid hq
      clear hp hq
      have hmr : max (-(p : Int)) (p : Int) = (p : Int) := by omega
      have hne : (M != 0) = true := by have := hM.out; rw [bne_iff_ne]; omega
      go_wp2_with (at_builtin; refine wpList_push rfl _ _ rfl X.heap.size _ l rfl (hown.alloc _) wr.heap.size rfl _ (cell_new _ _ _) (p) (by first | rfl | (rw [Bs_eq]; first | rfl | omega)) hll (by simp; omega) (fun v' w' hown' hkeep => ?_))
      have HO := Lib.hid hown'
      have HKp := Lib.hid (hkeep X (HBL.out.alloc hsz _))
      clear hown' hkeep
      go_wp2_with fail
      go_roundw
      case rel => exact LstN.of (r := q) (LstR.next HZZ.out HD.out h0 HV.out HKp.out (by have h7 := HP.out; rw [Bs_eq, h7]; exact HO.out) rfl (by have h7 := HQ.out; rw [Bs_eq, h7])) rfl rfl rfl
      case measure => have h7 := HQ.out; have h8 := hM.out; simp [intOf]; omega

end Go.Proofs.YtfhmhkbjcccejaaGreatDoor

namespace Go.Proofs.YtfhmhkbjcccejaaGreatDoor
open Go.RowKit

theorem retJJ_box {z z' : Int} {A A' : Option Addr} {n c n' c' g g' : Nat} {w w3 wf : World} {e : Ending} (he : e = .returned (.tuple #[.agg #[.bool (decide (z < 0)), .slice A n c], .agg #[.bool (decide (z' < 0)), .slice A' n' c']]))
    (hD : D w3 (.slice A n c) z.natAbs) (hD' : D w3 (.slice A' n' c') z'.natAbs) (hx : Bx w3 g 45) (hx' : Bx w3 g' 45) (hB : Below w.heap.size w w3) (hg : w.heap.size ≤ g) (hg' : w.heap.size ≤ g')
    (hw : Drn ((((w3.setCell ⟨g, 0, none⟩ (.bool (decide (z < 0)))).setCell ⟨g, 1, none⟩ (.slice A n c)).setCell ⟨g', 0, none⟩ (.bool (decide (z' < 0)))).setCell ⟨g', 1, none⟩ (.slice A' n' c')) wf) : RetJJ z z' w e wf := by
  have k1 : ∀ {v x}, D w3 v x → D wf v x := fun h => hw.d ((((h.set hx (by decide) _ _).set (hx.set _ _ _) (by decide) _ _).set ((hx'.set _ _ _).set _ _ _) (by decide) _ _).set (((hx'.set _ _ _).set _ _ _).set _ _ _) (by decide) _ _)
  exact ⟨A, n, c, A', n', c', he, k1 hD, k1 hD', ((((hB.setCell hg _).setCell hg _).setCell hg' _).setCell hg' _).trans (hw.below _)⟩

set_option maxRecDepth 100000 in
set_option maxHeartbeats 2000000 in
theorem divideI_any (b1 b2 : Bool) (A B : Option Addr) (n m c d x y : Nat) (w : World) (h1 : D w (.slice A n c) x) (h2 : D w (.slice B m d) y) (hn : n ≤ 999999) (hy : 0 < y) :
    Calls Tryz.prog 76 #[.agg #[.bool b1, .slice A n c], .agg #[.bool b2, .slice B m d]] w (RetJJ (sgn (!b1 == b2) (x / y)) (sgn b1 (x % y)) w) := by
  have HM : Hid (∀ wx, Below w.heap.size w wx → Calls Tryz.prog 103 #[.slice A n c, .slice B m d] wx (RetDiv x y wx)) := fun wx hx => divideD_any A B n m c d x y wx (h1.keep hx) (h2.keep hx) hn hy
  have HX : Hid (x / y < W ^ n) := Nat.lt_of_le_of_lt (Nat.div_le_self _ _) h1.pow
  have HY : Hid (x % y < W ^ n) := Nat.lt_of_le_of_lt (Nat.mod_le _ _) h1.pow
  clear h1 h2
  go_enter Tryz.func76, Tryz.ntmps76
  go_wp2_with fail
  generalize hX : (((w.alloc _).alloc _).alloc _).alloc _ = X
  have hXX : Below w.heap.size w X ∧ w.heap.size + 4 = X.heap.size ∧ Wr (w.heap.size + 1 + 1) 45 X ∧ Wr (w.heap.size + 1 + 1 + 1) 45 X ∧ Fr w.heap.size (.bool b1) (.slice A n c) (.bool b2) (.slice B m d) X := by
    subst hX
    exact ⟨((((Below.refl _ _).alloc (Nat.le_refl _) _).alloc (by simp) _).alloc (by simp; omega) _).alloc (by simp; omega) _, by simp, (Wr.new _ _ _ 45 (by simp)).keep (below_alloc _ _), Wr.new _ _ _ 45 (by simp), by simp [Fr, go_sem]⟩
  obtain ⟨hwX, hsX, hW2, hW3, hFr⟩ := hXX
  obtain ⟨i0, i1, i2, i3⟩ := hFr.out
  clear hX
  have HSX := Lib.hid hsX
  clear hsX
  go_wp2_with fail
  (with_reducible refine (HM.out _ hwX).mono ?_)
  rintro e w1 ⟨vq, vr, rfl, hDq, hDr, hB⟩
  obtain ⟨Aq, nq, cq, rfl⟩ := hDq.shape
  obtain ⟨Ar, nr, cr, rfl⟩ := hDr.shape
  have hnq := hDq.len HX.out
  have hnr := hDr.len HY.out
  have hFr1 := hFr.keep (by rw [← HSX.out]; omega) hB
  obtain ⟨j0, j1, j2, j3⟩ := hFr1.out
  clear i0 i1 i2 i3
  have hz1 : w.heap.size + 1 < w1.heap.size := by have := hB.size; have := HSX.out; omega
  have hw1 := hwX.trans (hB.mono hwX.size)
  go_wp2_with fail
  go_region_with (first
      | (go_at_call 74; (with_reducible refine (signed_any (!b1 == b2) Aq nq cq (x / y) _ (by first | exact hDq | exact hDq.drew) (by omega)).mono ?_); rintro e w2 ⟨A2, n2, c2, rfl, hD2, hB2⟩; have hB2 : Below w1.heap.size w1 w2 := (by first | exact hB2 | exact below_undrew' hB2); have hFr2 := hFr1.keep hz1 hB2; have hDr2 := hDr.keep hB2; have hw2 := hw1.trans (hB2.mono hw1.size); have hz2 := Nat.lt_of_lt_of_le hz1 hB2.size; obtain ⟨l0, l1, l2, l3⟩ := hFr2.out)
      | (go_at_call 74; (with_reducible refine (signed_any b1 Ar nr cr (x % y) _ (by first | exact hDr2 | exact hDr2.drew) (by omega)).mono ?_); rintro e w3 ⟨A3, n3, c3, rfl, hD3, hB3⟩; have hB3 : Below w2.heap.size w2 w3 := (by first | exact hB3 | exact below_undrew' hB3); have hFr3 := hFr2.keep hz2 hB3; have hD23 := hD2.keep hB3; have hw3 := hw2.trans (hB3.mono hw2.size); obtain ⟨m0, m1, m2, m3⟩ := hFr3.out; obtain ⟨⟨p1, p2, p3, p4⟩, p5, p6, p7⟩ := ((hW2.keep hB).keep hB2).keep hB3; obtain ⟨⟨o1, o2, o3, o4⟩, o5, o6, o7⟩ := ((hW3.keep hB).keep hB2).keep hB3))
  all_goals go_wp2_with fail
  all_goals exact bodyPost_ret (v := .tuple #[.agg #[.bool (decide (sgn (!b1 == b2) (x / y) < 0)), .slice A2 n2 c2], .agg #[.bool (decide (sgn b1 (x % y) < 0)), .slice A3 n3 c3]]) (by simp [results, Tryz.results76, go_sem, *]) rfl (retJJ_box rfl hD23 hD3 p7 o7 hw3 (by omega) (by omega) (by first | exact ⟨0, rfl⟩ | exact ⟨1, rfl⟩ | exact ⟨2, rfl⟩))

end Go.Proofs.YtfhmhkbjcccejaaGreatDoor

namespace Go.Proofs.YtfhmhkbjcccejaaGreatDoor
open Go.RowKit

theorem cmpI_le {x y : Int} (h : ¬ y < x) : ∃ r : Int, cmpI x y = r ∧ r ≤ 0 := by
  refine ⟨cmpI x y, rfl, ?_⟩
  unfold cmpI
  repeat' split
  all_goals omega

/-- The greatest number of a valid fraction. -/
def MaxN : Nat := 1152921504606846976
theorem MaxN_eq : MaxN = 1152921504606846976 := rfl
theorem word_max (w : World) : Calls Tryz.prog 52 #[.int .u64 1152921504606846976] w (RetD MaxN w) := word_any 1152921504606846976 w (by omega)

set_option maxRecDepth 100000 in
set_option maxHeartbeats 2000000 in
theorem limited_big (b : Bool) (A : Option Addr) (n c x : Nat) (w : World) (h : D w (.slice A n c) x) (hn : n ≤ 400000) (hx : MaxN < x) :
    Calls Tryz.prog 56 #[.agg #[.bool b, .slice A n c]] w fun e w' => e = .returned (.tuple #[.int .i64 0, .bool false]) ∧ Below w.heap.size w w' := by
  have HCI : Hid (cmpI (x : Int) (MaxN : Int) = 1) := cmpI_gt (by omega)
  have HC : Hid (∀ wb wx vB vm vd, Below w.heap.size w wb → D wb (.slice vB vm vd) MaxN → Drn wb wx → Calls Tryz.prog 80 #[.slice A n c, .slice vB vm vd] wx fun e w' => e = .returned (.int .i64 1) ∧ Drn wx w') := fun wb wx vB vm vd hb hd hx => by
    have := compD_any A vB n vm c vd x MaxN wx (hx.d (h.keep hb)) (hx.d hd) hn
    rw [HCI.out] at this; exact this
  clear h hx
  go_enter Tryz.func56, Tryz.ntmps56
  go_wp2_with fail
  have bb : Below w.heap.size w (w.alloc (.cells #[.bool b, .slice A n c] 45)) := below_alloc w _
  generalize hMM : (1152921504606846976 : Int) = MM
  have HWM : Hid (∀ wx, Calls Tryz.prog 52 #[.int .u64 MM] wx (RetD MaxN wx)) := fun wx => by rw [← hMM]; exact word_max wx
  clear hMM
  go_region_with (first
    | (go_at_call 52; (with_reducible refine (HWM.out _).mono ?_); rintro e w1 ⟨v, rfl, hD, hB⟩; obtain ⟨A1, n1, c1, rfl⟩ := hD.shape; (have hB1 : Below w.heap.size w w1 := bb.trans (Below.mono (by first | exact hB | exact below_undrew' hB) bb.size)); (have hcx := (Below.cell (by first | exact hB | exact below_undrew' hB) (p := ⟨w.heap.size, 1, none⟩) (by simp)).trans (show _ = some (Value.slice A n c) by simp [go_sem])))
    | (go_at_call 80; (with_reducible refine (HC.out w1 _ _ _ _ hB1 hD (by first | exact Drn.refl _ | exact (Drn.refl _).more1)).mono ?_); rintro e w2 ⟨rfl, hdr⟩; (have hB2 : Below w.heap.size w w2 := hB1.trans (Drn.below (by first | exact hdr | exact Drn.trans (Drn.more1 (Drn.refl _)) hdr) _))))
  all_goals simp only [Exit.then]
  all_goals go_simp
  all_goals go_wp2_with fail
  all_goals (go_ret2; exact ⟨rfl, hB2⟩)

set_option maxRecDepth 100000 in
set_option maxHeartbeats 2000000 in
theorem limited_false (A : Option Addr) (n c x : Nat) (w : World) (h : D w (.slice A n c) x) (hx : x ≤ MaxN) :
    Calls Tryz.prog 56 #[.agg #[.bool false, .slice A n c]] w fun e w' => e = .returned (.tuple #[.int .i64 ((x : Int)), .bool true]) ∧ Below w.heap.size w w' := by
  have hn : n ≤ 2 := h.len (by have e : W ^ 2 = 18446744073709551616 := by rw [W_eq]
                               rw [MaxN_eq] at hx
                               omega)
  obtain ⟨r, hr, hr0⟩ : ∃ r : Int, cmpI (x : Int) (MaxN : Int) = r ∧ r ≤ 0 := cmpI_le (by omega)
  have HC : Hid (∀ wb wx vB vm vd, Below w.heap.size w wb → D wb (.slice vB vm vd) MaxN → Drn wb wx → Calls Tryz.prog 80 #[.slice A n c, .slice vB vm vd] wx fun e w' => e = .returned (.int .i64 r) ∧ Drn wx w') := fun wb wx vB vm vd hb hd hx => by
    have := compD_any A vB n vm c vd x MaxN wx (hx.d (h.keep hb)) (hx.d hd) (by omega)
    rw [hr] at this; exact this
  have HWD : Hid (∀ wx, Below w.heap.size w wx → Calls Tryz.prog 81 #[.slice A n c] wx fun e w' => e = .returned (.int .u64 (x : Int)) ∧ wx = w') := fun wx hx => by
    obtain ⟨f, f1, f2, f3, f4, f5⟩ := (h.keep hx).open_
    rw [← f4]; exact wordm_any A n c f wx hn f5 f2
  have hr1 : decide (0 < r) = false := by simp; omega
  have hxs : x ≤ 1152921504606846976 := hx
  clear h hx hr
  go_enter Tryz.func56, Tryz.ntmps56
  go_wp2_with fail
  have bb : Below w.heap.size w (w.alloc (.cells #[.bool false, .slice A n c] 45)) := below_alloc w _
  generalize hMM : (1152921504606846976 : Int) = MM
  have HWM : Hid (∀ wx, Calls Tryz.prog 52 #[.int .u64 MM] wx (RetD MaxN wx)) := fun wx => by rw [← hMM]; exact word_max wx
  clear hMM
  go_region_with (first
    | (go_at_call 52; (with_reducible refine (HWM.out _).mono ?_); rintro e w1 ⟨v, rfl, hD, hB⟩; obtain ⟨A1, n1, c1, rfl⟩ := hD.shape; (have hB1 : Below w.heap.size w w1 := bb.trans (Below.mono (by first | exact hB | exact below_undrew' hB) bb.size)); (have hcx := (Below.cell (by first | exact hB | exact below_undrew' hB) (p := ⟨w.heap.size, 1, none⟩) (by simp)).trans (show _ = some (Value.slice A n c) by simp [go_sem])); (have hcz := (Below.cell (by first | exact hB | exact below_undrew' hB) (p := ⟨w.heap.size, 0, none⟩) (by simp)).trans (show _ = some (Value.bool false) by simp [go_sem])))
    | (go_at_call 80; (with_reducible refine (HC.out w1 _ _ _ _ hB1 hD (by first | exact Drn.refl _ | exact (Drn.refl _).more1)).mono ?_); rintro e w2 ⟨rfl, hdr⟩; (have hd2 : Drn w1 w2 := (by first | exact hdr | exact Drn.trans (Drn.more1 (Drn.refl _)) hdr)); (have hB2 : Below w.heap.size w w2 := hB1.trans (hd2.below _)); (have hcx2 := (hd2.cell ⟨w.heap.size, 1, none⟩).trans hcx); (have hcz2 := (hd2.cell ⟨w.heap.size, 0, none⟩).trans hcz)))
  all_goals simp only [Exit.then]
  all_goals go_simp
  all_goals go_wp2_with ((with_reducible refine (HWD.out _ hB2).mono ?_); rintro e w' ⟨rfl, rfl⟩)
  all_goals (go_ret2; exact ⟨rfl, hB2⟩)

set_option maxRecDepth 100000 in
set_option maxHeartbeats 2000000 in
theorem limited_true (A : Option Addr) (n c x : Nat) (w : World) (h : D w (.slice A n c) x) (hx : x ≤ MaxN) :
    Calls Tryz.prog 56 #[.agg #[.bool true, .slice A n c]] w fun e w' => e = .returned (.tuple #[.int .i64 (-(x : Int)), .bool true]) ∧ Below w.heap.size w w' := by
  have hn : n ≤ 2 := h.len (by have e : W ^ 2 = 18446744073709551616 := by rw [W_eq]
                               rw [MaxN_eq] at hx
                               omega)
  obtain ⟨r, hr, hr0⟩ : ∃ r : Int, cmpI (x : Int) (MaxN : Int) = r ∧ r ≤ 0 := cmpI_le (by omega)
  have HC : Hid (∀ wb wx vB vm vd, Below w.heap.size w wb → D wb (.slice vB vm vd) MaxN → Drn wb wx → Calls Tryz.prog 80 #[.slice A n c, .slice vB vm vd] wx fun e w' => e = .returned (.int .i64 r) ∧ Drn wx w') := fun wb wx vB vm vd hb hd hx => by
    have := compD_any A vB n vm c vd x MaxN wx (hx.d (h.keep hb)) (hx.d hd) (by omega)
    rw [hr] at this; exact this
  have HWD : Hid (∀ wx, Below w.heap.size w wx → Calls Tryz.prog 81 #[.slice A n c] wx fun e w' => e = .returned (.int .u64 (x : Int)) ∧ wx = w') := fun wx hx => by
    obtain ⟨f, f1, f2, f3, f4, f5⟩ := (h.keep hx).open_
    rw [← f4]; exact wordm_any A n c f wx hn f5 f2
  have hr1 : decide (0 < r) = false := by simp; omega
  have hxs : x ≤ 1152921504606846976 := hx
  clear h hx hr
  go_enter Tryz.func56, Tryz.ntmps56
  go_wp2_with fail
  have bb : Below w.heap.size w (w.alloc (.cells #[.bool true, .slice A n c] 45)) := below_alloc w _
  generalize hMM : (1152921504606846976 : Int) = MM
  have HWM : Hid (∀ wx, Calls Tryz.prog 52 #[.int .u64 MM] wx (RetD MaxN wx)) := fun wx => by rw [← hMM]; exact word_max wx
  clear hMM
  go_region_with (first
    | (go_at_call 52; (with_reducible refine (HWM.out _).mono ?_); rintro e w1 ⟨v, rfl, hD, hB⟩; obtain ⟨A1, n1, c1, rfl⟩ := hD.shape; (have hB1 : Below w.heap.size w w1 := bb.trans (Below.mono (by first | exact hB | exact below_undrew' hB) bb.size)); (have hcx := (Below.cell (by first | exact hB | exact below_undrew' hB) (p := ⟨w.heap.size, 1, none⟩) (by simp)).trans (show _ = some (Value.slice A n c) by simp [go_sem])); (have hcz := (Below.cell (by first | exact hB | exact below_undrew' hB) (p := ⟨w.heap.size, 0, none⟩) (by simp)).trans (show _ = some (Value.bool true) by simp [go_sem])))
    | (go_at_call 80; (with_reducible refine (HC.out w1 _ _ _ _ hB1 hD (by first | exact Drn.refl _ | exact (Drn.refl _).more1)).mono ?_); rintro e w2 ⟨rfl, hdr⟩; (have hd2 : Drn w1 w2 := (by first | exact hdr | exact Drn.trans (Drn.more1 (Drn.refl _)) hdr)); (have hB2 : Below w.heap.size w w2 := hB1.trans (hd2.below _)); (have hcx2 := (hd2.cell ⟨w.heap.size, 1, none⟩).trans hcx); (have hcz2 := (hd2.cell ⟨w.heap.size, 0, none⟩).trans hcz)))
  all_goals simp only [Exit.then]
  all_goals go_simp
  all_goals go_wp2_with ((with_reducible refine (HWD.out _ hB2).mono ?_); rintro e w' ⟨rfl, rfl⟩)
  all_goals (go_ret2; exact ⟨rfl, hB2⟩)

/-- exact.Int.limited, where the number fits. -/
theorem limited_small (b : Bool) (A : Option Addr) (n c x : Nat) (w : World) (h : D w (.slice A n c) x) (hx : x ≤ MaxN) :
    Calls Tryz.prog 56 #[.agg #[.bool b, .slice A n c]] w fun e w' => e = .returned (.tuple #[.int .i64 (sgn b x), .bool true]) ∧ Below w.heap.size w w' := by
  cases b
  · exact limited_false A n c x w h hx
  · exact limited_true A n c x w h hx

end Go.Proofs.YtfhmhkbjcccejaaGreatDoor
