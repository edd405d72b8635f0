/- The sum of fractions of any size in memory. -/
import Derived.Test.YtmfnpipmbpnfbaaGreatDoorF21

set_option maxRecDepth 100000
set_option maxHeartbeats 40000000
namespace Go.Proofs.YtmfnpipmbpnfbaaGreatDoor
open Go.RowKit
def CutG (X : World) (b : Bool) (k : Nat) (s : Value) (wx : World) : Prop :=
  ∃ g L nl cl, s = .pointer (some ⟨g, 0, none⟩) ∧ B2 g (.bool b) (.slice L nl cl) wx ∧ D wx (.slice L nl cl) k ∧ Below X.heap.size X wx ∧ X.heap.size ≤ g ∧ g < wx.heap.size
theorem cutG_new {X w2 : World} {b : Bool} {k nl cl : Nat} {L : Option Addr} (hD : D w2 (.slice L nl cl) k) (hB : Below X.heap.size X w2) : CutG X b k (.pointer (some ⟨w2.heap.size, 0, none⟩)) (w2.alloc (.cells #[.bool b, .slice L nl cl] 183)) :=
  ⟨w2.heap.size, L, nl, cl, rfl, B2.new w2 _ _ 183, hD.keep (below_alloc _ _), hB.alloc hB.size _, hB.size, by simp⟩
theorem cutG_set {X w2 : World} {b : Bool} {k nl cl g : Nat} {L : Option Addr} (hW : Wr g 183 w2) (hB : Below X.heap.size X w2) (hg : X.heap.size ≤ g) (hD : D w2 (.slice L nl cl) k) : CutG X b k (.pointer (some ⟨g, 0, none⟩)) ((w2.setCell ⟨g, 0, none⟩ (.bool b)).setCell ⟨g, 1, none⟩ (.slice L nl cl)) := by
  obtain ⟨⟨p, q, h1, h2⟩, h3, h4, h5⟩ := hW
  have hsz : g < w2.heap.size := by obtain ⟨cs, fr, hc⟩ := h5; exact lt_of_heap hc
  refine ⟨g, L, nl, cl, rfl, ⟨?_, ?_⟩, (hD.set h5 (by decide) _ _).set (h5.set _ _ _) (by decide) _ _, (hB.setCell hg _).setCell hg _, hg, by simpa [World.setCell] using hsz⟩
  · simp [go_sem, h1]
  · simp [go_sem, h2]
theorem addR_all (b1 b2 : Bool) (A B A' B' : Option Addr) (n c m d n' c' m' d' : Nat) (x y : Rat) (w : World) (hx : Q w b1 (.slice A n c) (.slice B m d) x) (hy : Q w b2 (.slice A' n' c') (.slice B' m' d') y)
    (hn : n ≤ 50000) (hm : m ≤ 50000) (hn' : n' ≤ 50000) (hm' : m' ≤ 50000) :
    Calls Tryz.prog 186 #[.agg #[.bool b1, .slice A n c, .bool false, .slice B m d], .agg #[.bool b2, .slice A' n' c', .bool false, .slice B' m' d']] w (RetR (x + y) w) := by
  obtain ⟨k, hk⟩ : ∃ k, Nat.gcd x.den y.den = k := ⟨_, rfl⟩
  have hxd : 0 < x.den := by have := x.den_nz; omega
  have hyd : 0 < y.den := by have := y.den_nz; omega
  have hk0 : 0 < k := by rw [← hk]; exact Nat.gcd_pos_of_pos_left _ hxd
  have hkx : k ∣ x.den := by rw [← hk]; exact Nat.gcd_dvd_left _ _
  have hky : k ∣ y.den := by rw [← hk]; exact Nat.gcd_dvd_right _ _
  obtain ⟨u, hu⟩ : ∃ u, x.den / k = u := ⟨_, rfl⟩
  obtain ⟨v, hv⟩ : ∃ v, y.den / k = v := ⟨_, rfl⟩
  have hu' : x.den = u * k := by rw [← hu]; exact (Nat.div_mul_cancel hkx).symm
  have hv' : y.den = v * k := by rw [← hv]; exact (Nat.div_mul_cancel hky).symm
  obtain ⟨T, hT⟩ : ∃ T : Int, x.num * v + y.num * u = T := ⟨_, rfl⟩
  obtain ⟨r, hr⟩ : ∃ r, T.natAbs.gcd k = r := ⟨_, rfl⟩
  have hr0 : 0 < r := by rw [← hr]; exact Nat.gcd_pos_of_pos_right _ hk0
  have hrk : r ∣ k := by rw [← hr]; exact Nat.gcd_dvd_right _ _
  have hrT : r ∣ T.natAbs := by rw [← hr]; exact Nat.gcd_dvd_left _ _
  have hsum : (x + y).num = sgn (decide (T < 0)) (T.natAbs / r) ∧ (x + y).den = x.den / r * v := by
    have h := rat_add hk hu' hv' (by rw [hT]; exact hr) (s := sgn (decide (T < 0)) (T.natAbs / r)) (by rw [hT, sgn_div _ _ _ hrT, sgn_of]) (e := k / r) (Nat.div_mul_cancel hrk).symm
    refine ⟨h.1, ?_⟩
    rw [h.2]
    have e : x.den / r = k / r * u := by rw [hu', Nat.mul_comm u k]; exact Nat.div_mul_right_comm hrk u ▸ rfl
    rw [e]
  have HLa : Hid (∀ wx, Calls Tryz.prog 189 #[.agg #[.bool b1, .slice A n c, .bool false, .slice B m d]] wx fun e w' => e = .returned (.agg #[.bool false, .slice B m d]) ∧ Below wx.heap.size wx w') := fun wx => low_any b1 A B n c m d wx hx.low (by omega)
  have HLb : Hid (∀ wx, Calls Tryz.prog 189 #[.agg #[.bool b2, .slice A' n' c', .bool false, .slice B' m' d']] wx fun e w' => e = .returned (.agg #[.bool false, .slice B' m' d']) ∧ Below wx.heap.size wx w') := fun wx => low_any b2 A' B' n' c' m' d' wx hy.low (by omega)
  have HG1 : Hid (∀ wx, Below w.heap.size w wx → Calls Tryz.prog 213 #[.agg #[.bool false, .slice B m d], .agg #[.bool false, .slice B' m' d']] wx (RetN k wx)) := fun wx hb => by
    have := divisorI_all false false B B' m m' d d' _ _ wx (hx.keep hb).2.2 (hy.keep hb).2.2 (by omega) (by omega)
    rw [hk] at this
    exact this.mono fun _ _ => RetN.of
  have HO1 : Hid (∀ wx L nl cl, Below w.heap.size w wx → D wx (.slice L nl cl) k → Calls Tryz.prog 214 #[.agg #[.bool false, .slice B' m' d'], .agg #[.bool false, .slice L nl cl]] wx (RetN v wx)) := fun wx L nl cl hb hD => by
    have := over_any false B' L m' nl d' cl _ _ wx (hy.keep hb).2.2 hD (by omega) hk0 (by simp [sgn])
    rw [hv] at this
    exact this.mono fun _ _ => RetN.of
  have HO2 : Hid (∀ wx L nl cl, Below w.heap.size w wx → D wx (.slice L nl cl) k → Calls Tryz.prog 214 #[.agg #[.bool false, .slice B m d], .agg #[.bool false, .slice L nl cl]] wx (RetN u wx)) := fun wx L nl cl hb hD => by
    have := over_any false B L m nl d cl _ _ wx (hx.keep hb).2.2 hD (by omega) hk0 (by simp [sgn])
    rw [hu] at this
    exact this.mono fun _ _ => RetN.of
  have hvl : v < W ^ m' := by rw [← hv]; exact Nat.lt_of_le_of_lt (Nat.div_le_self _ _) hy.2.2.pow
  have hul : u < W ^ m := by rw [← hu]; exact Nat.lt_of_le_of_lt (Nat.div_le_self _ _) hx.2.2.pow
  have HM1 : Hid (∀ wx L nl cl, Below w.heap.size w wx → D wx (.slice L nl cl) v → Calls Tryz.prog 215 #[.agg #[.bool b1, .slice A n c], .agg #[.bool false, .slice L nl cl]] wx (RetB (x.num * v) wx)) := fun wx L nl cl hb hD => by
    have := mulI_any b1 false A L n nl c cl _ _ wx (hx.keep hb).2.1 hD (by omega) (by have := hD.len hvl; omega)
    rw [hx.sgn] at this
    exact this.mono fun _ _ => RetB.of
  have HM2 : Hid (∀ wx L nl cl, Below w.heap.size w wx → D wx (.slice L nl cl) u → Calls Tryz.prog 215 #[.agg #[.bool b2, .slice A' n' c'], .agg #[.bool false, .slice L nl cl]] wx (RetB (y.num * u) wx)) := fun wx L nl cl hb hD => by
    have := mulI_any b2 false A' L n' nl c' cl _ _ wx (hy.keep hb).2.1 hD (by omega) (by have := hD.len hul; omega)
    rw [hy.sgn] at this
    exact this.mono fun _ _ => RetB.of
  have l1 : (x.num * v).natAbs < W ^ (n + m') := by rw [Int.natAbs_mul, Int.natAbs_natCast]; exact mul_lt_pow hx.2.1.pow hvl
  have l2 : (y.num * u).natAbs < W ^ (n' + m) := by rw [Int.natAbs_mul, Int.natAbs_natCast]; exact mul_lt_pow hy.2.1.pow hul
  have lT : T.natAbs < W ^ (n + m' + (n' + m) + 1) := by
    have := pow_add_lt l1 l2
    have h3 : T.natAbs ≤ (x.num * v).natAbs + (y.num * u).natAbs := by rw [← hT]; exact Int.natAbs_add_le _ _
    omega
  have HA : Hid (∀ wx p A1 n1 c1 q A2 n2 c2, Hid (p = decide (x.num * v < 0)) → D wx (.slice A1 n1 c1) (x.num * v).natAbs → Hid (q = decide (y.num * u < 0)) → D wx (.slice A2 n2 c2) (y.num * u).natAbs →
      Calls Tryz.prog 216 #[.agg #[.bool p, .slice A1 n1 c1], .agg #[.bool q, .slice A2 n2 c2]] wx (RetB T wx)) := fun wx p A1 n1 c1 q A2 n2 c2 hp h1 hq h2 => by
    have e1 := h1.len l1
    have e2 := h2.len l2
    have := addI_any p q A1 A2 n1 n2 c1 c2 _ _ wx h1 h2 (by omega) (by omega)
    rw [hp.out, hq.out, sgn_of, sgn_of, hT] at this
    rw [hp.out, hq.out]
    exact this.mono fun _ _ => RetB.of
  have HG2 : Hid (∀ wx p A1 n1 c1 L nl cl, D wx (.slice A1 n1 c1) T.natAbs → D wx (.slice L nl cl) k → Calls Tryz.prog 213 #[.agg #[.bool p, .slice A1 n1 c1], .agg #[.bool false, .slice L nl cl]] wx (RetN r wx)) := fun wx p A1 n1 c1 L nl cl h1 h2 => by
    have e1 := h1.len lT
    have e2 : nl ≤ m' := h2.len (Nat.lt_of_le_of_lt (Nat.le_of_dvd hyd hky) hy.2.2.pow)
    have := divisorI_all p false A1 L n1 nl c1 cl _ _ wx h1 h2 (by omega) (by omega)
    rw [hr] at this
    exact this.mono fun _ _ => RetN.of
  have HO3 : Hid (∀ wx p A1 n1 c1 L nl cl, Hid (p = decide (T < 0)) → D wx (.slice A1 n1 c1) T.natAbs → D wx (.slice L nl cl) r → Calls Tryz.prog 214 #[.agg #[.bool p, .slice A1 n1 c1], .agg #[.bool false, .slice L nl cl]] wx (RetB (x + y).num wx)) := fun wx p A1 n1 c1 L nl cl hp h1 h2 => by
    have e1 := h1.len lT
    have := over_any p A1 L n1 nl c1 cl _ _ wx h1 h2 (by omega) hr0 (by rw [hp.out, sgn_of])
    rw [hp.out, ← hsum.1] at this
    rw [hp.out]
    exact this.mono fun _ _ => RetB.of
  have HO4 : Hid (∀ wx L nl cl, Below w.heap.size w wx → D wx (.slice L nl cl) r → Calls Tryz.prog 214 #[.agg #[.bool false, .slice B m d], .agg #[.bool false, .slice L nl cl]] wx (RetN (x.den / r) wx)) := fun wx L nl cl hb hD =>
    (over_any false B L m nl d cl _ _ wx (hx.keep hb).2.2 hD (by omega) hr0 (by simp [sgn])).mono fun _ _ => RetN.of
  have HM3 : Hid (∀ wx A1 n1 c1 A2 n2 c2, D wx (.slice A1 n1 c1) (x.den / r) → D wx (.slice A2 n2 c2) v → Calls Tryz.prog 215 #[.agg #[.bool false, .slice A1 n1 c1], .agg #[.bool false, .slice A2 n2 c2]] wx (RetN (x + y).den wx)) := fun wx A1 n1 c1 A2 n2 c2 h1 h2 => by
    have e1 : n1 ≤ m := h1.len (Nat.lt_of_le_of_lt (Nat.div_le_self _ _) hx.2.2.pow)
    have e2 := h2.len hvl
    have := mulI_any false false A1 A2 n1 n2 c1 c2 _ _ wx h1 h2 (by omega) (by omega)
    have e : sgn false (x.den / r) * sgn false v = (((x + y).den : Nat) : Int) := by rw [hsum.2]; simp [sgn]
    rw [e] at this
    exact this.mono fun _ _ => RetN.of
  generalize x + y = z at HO3 HM3 ⊢
  clear hsum lT l1 l2 hvl hul hrT hrk hr0 hr hT hu' hv' hu hv hkx hky hk0 hxd hyd hk hx hy
  generalize x.num * v = t1 at HM1 HA
  generalize y.num * u = t2 at HM2 HA
  generalize x.den / r = z3 at HO4 HM3
  clear x y hn hm hn' hm'
  go_enter Tryz.func186, Tryz.ntmps186
  go_upto_region 1 with fail
  generalize hX : ((w.alloc _).alloc _).alloc _ = X
  have hXX : Below w.heap.size w X ∧ w.heap.size + 3 = X.heap.size ∧ Wr4 (w.heap.size + 1 + 1) 185 X ∧ B4 w.heap.size (.bool b1) (.slice A n c) (.bool false) (.slice B m d) X ∧ B4 (w.heap.size + 1) (.bool b2) (.slice A' n' c') (.bool false) (.slice B' m' d') X := by
    subst hX
    obtain ⟨f1, f2, f3⟩ := frame4 w (.bool b1) (.slice A n c) (.bool false) (.slice B m d) (.bool b2) (.slice A' n' c') (.bool false) (.slice B' m' d') (.bool false) (.slice none 0 0) (.bool false) (.slice none 0 0)
    exact ⟨f1, f2, f3, by simp [B4, go_sem], by simp [B4, go_sem]⟩
  obtain ⟨hwX, hsX, hWX, K4, K4'⟩ := hXX
  have za : w.heap.size < X.heap.size := by omega
  have zb : w.heap.size + 1 < X.heap.size := by omega
  have zc : w.heap.size + 1 + 1 < X.heap.size := by omega
  clear hX hsX
  have KX := Lib.hid K4
  have KX' := Lib.hid K4'
  obtain ⟨k0, k1, k2, k3⟩ := K4
  obtain ⟨j0, j1, j2, j3⟩ := K4'
  go_cut [5] (fun s wx => ∃ Y : World, Y = wx ∧ CutG X false k s Y)
  case first =>
    go_region_held3 (fun w' => w'.cell? ⟨w.heap.size, 0, none⟩ = some (.bool b1) ∧ w'.cell? ⟨w.heap.size, 1, none⟩ = some (.slice A n c) ∧ w'.cell? ⟨w.heap.size, 2, none⟩ = some (.bool false) ∧ w'.cell? ⟨w.heap.size, 3, none⟩ = some (.slice B m d) ∧ w'.cell? ⟨w.heap.size + 1, 0, none⟩ = some (.bool b2) ∧ w'.cell? ⟨w.heap.size + 1, 1, none⟩ = some (.slice A' n' c') ∧ w'.cell? ⟨w.heap.size + 1, 2, none⟩ = some (.bool false) ∧ w'.cell? ⟨w.heap.size + 1, 3, none⟩ = some (.slice B' m' d')) (simp [go_sem, World.cell?_alloc_past, *])
      (first
        | (go_at_call 189; (with_reducible refine (HLa.out _).mono ?_); rintro e w1 ⟨rfl, hB1⟩; (have R1 : Below X.heap.size X w1 := stepB (by repeat (first | exact Below.refl _ _ | refine Below.drew ?_ | refine Below.alloc ?_ (Nat.le_refl _) _)) hB1); (have S1 : Below X.heap.size X w1 := stepB (by repeat (first | exact Below.refl _ _ | refine Below.drew ?_ | refine Below.alloc ?_ (Nat.le_refl _) _)) hB1); have C1 := (bcell R1).1; have W1 := hwX.trans (R1.mono (Below.size hwX)); have v1a := Nat.lt_of_lt_of_le za R1.size; have v1b := Nat.lt_of_lt_of_le zb R1.size; (try (have hwr := (Wr.new _ (.bool false) (.slice none 0 0) 183 rfl).keep hB1)); (try (have hwr := (Wr.new _ (.bool false) (.slice none 0 0) 183 rfl).keep (below_undrew' hB1))))
        | (go_at_call 189; (with_reducible refine (HLb.out _).mono ?_); rintro e w2 ⟨rfl, hB2⟩; (have R2 : Below X.heap.size X w2 := stepB (by repeat (first | exact R1 | refine Below.drew ?_ | refine Below.alloc ?_ (Below.size R1) _)) hB2); (have S2 : Below w1.heap.size w1 w2 := stepB (by repeat (first | exact Below.refl _ _ | refine Below.drew ?_ | refine Below.alloc ?_ (Nat.le_refl _) _)) hB2); have C2 := (bcell R2).1; have W2 := hwX.trans (R2.mono (Below.size hwX)); have v2a := Nat.lt_of_lt_of_le za R2.size; have v2b := Nat.lt_of_lt_of_le zb R2.size; (try (have hwr := hwr.keep S2)); (try (have hwr := (Wr.new _ (.bool false) (.slice none 0 0) 183 rfl).keep hB2)); (try (have hwr := (Wr.new _ (.bool false) (.slice none 0 0) 183 rfl).keep (below_undrew' hB2))))
        | (go_at_call 213; (with_reducible refine (HG1.out _ (by repeat (first | exact W2 | refine Below.drew ?_ | refine Below.alloc ?_ (Below.size W2) _))).mono ?_); rintro e w3 ⟨L, nl, cl, rfl, hDl, hB3⟩; (have R3 : Below X.heap.size X w3 := stepB (by repeat (first | exact R2 | refine Below.drew ?_ | refine Below.alloc ?_ (Below.size R2) _)) hB3); (have S3 : Below w2.heap.size w2 w3 := stepB (by repeat (first | exact Below.refl _ _ | refine Below.drew ?_ | refine Below.alloc ?_ (Nat.le_refl _) _)) hB3); have C3 := (bcell R3).1; have W3 := hwX.trans (R3.mono (Below.size hwX)); have v3a := Nat.lt_of_lt_of_le za R3.size; have v3b := Nat.lt_of_lt_of_le zb R3.size; (try (have hwr := hwr.keep S3)); (try (have hwr := (Wr.new _ (.bool false) (.slice none 0 0) 183 rfl).keep hB3)); (try (have hwr := (Wr.new _ (.bool false) (.slice none 0 0) 183 rfl).keep (below_undrew' hB3))); (try (obtain ⟨⟨s1, s2, s3, s4⟩, s5, s6, s7⟩ := id hwr))))
    all_goals go_wp2_with fail
    all_goals go_meet
    all_goals first | exact ⟨_, rfl, cutG_new hDl R3⟩ | exact ⟨_, rfl, cutG_set hwr R3 (by first | exact Nat.le_refl _ | exact R1.size | exact R2.size) hDl⟩
  case rest =>
    obtain ⟨Y, rfl, g5, L, nl, cl, rfl, hb5, hDl, hXY, hg5, hg5'⟩ := hcut
    have hwY := hwX.trans (hXY.mono hwX.size)
    have hWY := hWX.keep hXY
    have KY := Lib.hid (KX.out.keep za hXY)
    have KY' := Lib.hid (KX'.out.keep zb hXY)
    have ya := Nat.lt_of_lt_of_le za hXY.size
    have yb := Nat.lt_of_lt_of_le zb hXY.size
    have yc := Nat.lt_of_lt_of_le zc hXY.size
    have g5n : w.heap.size + 1 + 1 ≠ g5 := by omega
    clear k0 k1 k2 k3 j0 j1 j2 j3 hWX KX KX' hXY hg5 za zb zc
    obtain ⟨k0, k1, k2, k3⟩ := KY.out
    obtain ⟨j0, j1, j2, j3⟩ := KY'.out
    have HB5 := Lib.hid hb5
    obtain ⟨i0, i1⟩ := hb5
    go_upto_region 2 with fail
    go_cut [6] (fun s wx => ∃ Z : World, Z = wx ∧ CutG Y false v s Z)
    case first =>
      go_region_held3 (fun w' => w'.cell? ⟨w.heap.size + 1, 0, none⟩ = some (.bool b2) ∧ w'.cell? ⟨w.heap.size + 1, 1, none⟩ = some (.slice A' n' c') ∧ w'.cell? ⟨w.heap.size + 1, 2, none⟩ = some (.bool false) ∧ w'.cell? ⟨w.heap.size + 1, 3, none⟩ = some (.slice B' m' d') ∧ w'.cell? ⟨g5, 0, none⟩ = some (.bool false) ∧ w'.cell? ⟨g5, 1, none⟩ = some (.slice L nl cl)) (simp [go_sem, World.cell?_alloc_past, *])
        (first
          | (go_at_call 189; (with_reducible refine (HLb.out _).mono ?_); rintro e w1 ⟨rfl, hB1⟩; (have R1 : Below Y.heap.size Y w1 := stepB (by repeat (first | exact Below.refl _ _ | refine Below.drew ?_ | refine Below.alloc ?_ (Nat.le_refl _) _)) hB1); (have S1 : Below Y.heap.size Y w1 := stepB (by repeat (first | exact Below.refl _ _ | refine Below.drew ?_ | refine Below.alloc ?_ (Nat.le_refl _) _)) hB1); have C1 := (bcell R1).1; have W1 := hwY.trans (R1.mono (Below.size hwY)); have v1a := Nat.lt_of_lt_of_le ya R1.size; have v1b := Nat.lt_of_lt_of_le yb R1.size; have v1c := Nat.lt_of_lt_of_le hg5' R1.size; (try (have hwr := (Wr.new _ (.bool false) (.slice none 0 0) 183 rfl).keep hB1)); (try (have hwr := (Wr.new _ (.bool false) (.slice none 0 0) 183 rfl).keep (below_undrew' hB1))))
          | (go_at_call 214; (with_reducible refine (HO1.out _ L nl cl (by repeat (first | exact W1 | refine Below.drew ?_ | refine Below.alloc ?_ (Below.size W1) _)) (by repeat (first | exact (hDl.keep R1) | refine D.drew ?_ | refine D.keep ?_ (below_alloc _ _)))).mono ?_); rintro e w2 ⟨F, nf, cf, rfl, hDf, hB2⟩; (have R2 : Below Y.heap.size Y w2 := stepB (by repeat (first | exact R1 | refine Below.drew ?_ | refine Below.alloc ?_ (Below.size R1) _)) hB2); (have S2 : Below w1.heap.size w1 w2 := stepB (by repeat (first | exact Below.refl _ _ | refine Below.drew ?_ | refine Below.alloc ?_ (Nat.le_refl _) _)) hB2); have C2 := (bcell R2).1; have W2 := hwY.trans (R2.mono (Below.size hwY)); have v2a := Nat.lt_of_lt_of_le ya R2.size; have v2b := Nat.lt_of_lt_of_le yb R2.size; have v2c := Nat.lt_of_lt_of_le hg5' R2.size; (try (have hwr := hwr.keep S2)); (try (have hwr := (Wr.new _ (.bool false) (.slice none 0 0) 183 rfl).keep hB2)); (try (have hwr := (Wr.new _ (.bool false) (.slice none 0 0) 183 rfl).keep (below_undrew' hB2))); (try (obtain ⟨⟨s1, s2, s3, s4⟩, s5, s6, s7⟩ := id hwr))))
      all_goals go_wp2_with fail
      all_goals go_meet
      all_goals first | exact ⟨_, rfl, cutG_new hDf R2⟩ | exact ⟨_, rfl, cutG_set hwr R2 (by first | exact Nat.le_refl _ | exact R1.size) hDf⟩
    case rest =>
      obtain ⟨Z, rfl, g6, F, nf, cf, rfl, hb6, hDf, hYZ, hg6, hg6'⟩ := hcut
      have hwZ := hwY.trans (hYZ.mono hwY.size)
      have hWZ := hWY.keep hYZ
      have hDl' := hDl.keep hYZ
      have KZ := Lib.hid (KY.out.keep ya hYZ)
      have KZ' := Lib.hid (KY'.out.keep yb hYZ)
      have HZ5 := Lib.hid (HB5.out.keep hg5' hYZ)
      have xa := Nat.lt_of_lt_of_le ya hYZ.size
      have xb := Nat.lt_of_lt_of_le yb hYZ.size
      have xc := Nat.lt_of_lt_of_le yc hYZ.size
      have x5 := Nat.lt_of_lt_of_le hg5' hYZ.size
      have g6n : w.heap.size + 1 + 1 ≠ g6 := by omega
      clear k0 k1 k2 k3 j0 j1 j2 j3 i0 i1 hWY KY KY' hYZ hg6 ya yb yc hDl hg5' HB5 hwY hwX
      obtain ⟨k0, k1, k2, k3⟩ := KZ.out
      obtain ⟨j0, j1, j2, j3⟩ := KZ'.out
      obtain ⟨i0, i1⟩ := HZ5.out
      have HZ6 := Lib.hid hb6
      obtain ⟨h0, h1⟩ := hb6
      go_upto_region 3 with fail
      go_cut [7] (fun s wx => ∃ V0 : World, V0 = wx ∧ ∃ b, Hid (b = decide (T < 0)) ∧ CutG Z b T.natAbs s V0)
      case first =>
        go_region_held3 (fun w' => w'.cell? ⟨w.heap.size, 0, none⟩ = some (.bool b1) ∧ w'.cell? ⟨w.heap.size, 1, none⟩ = some (.slice A n c) ∧ w'.cell? ⟨w.heap.size, 2, none⟩ = some (.bool false) ∧ w'.cell? ⟨w.heap.size, 3, none⟩ = some (.slice B m d) ∧ w'.cell? ⟨w.heap.size + 1, 0, none⟩ = some (.bool b2) ∧ w'.cell? ⟨w.heap.size + 1, 1, none⟩ = some (.slice A' n' c') ∧ w'.cell? ⟨g5, 0, none⟩ = some (.bool false) ∧ w'.cell? ⟨g5, 1, none⟩ = some (.slice L nl cl) ∧ w'.cell? ⟨g6, 0, none⟩ = some (.bool false) ∧ w'.cell? ⟨g6, 1, none⟩ = some (.slice F nf cf)) (simp [go_sem, World.cell?_alloc_past, *])
          (first
            | (go_at_call 215; (with_reducible refine (HM1.out _ F nf cf (by repeat (first | exact hwZ | refine Below.drew ?_ | refine Below.alloc ?_ (Below.size hwZ) _)) (by repeat (first | exact hDf | refine D.drew ?_ | refine D.keep ?_ (below_alloc _ _)))).mono ?_); rintro e w1 ⟨p1, A1, n1, c1, rfl, hp1, hD1, hB1⟩; (have R1 : Below Z.heap.size Z w1 := stepB (by repeat (first | exact Below.refl _ _ | refine Below.drew ?_ | refine Below.alloc ?_ (Nat.le_refl _) _)) hB1); (have S1 : Below Z.heap.size Z w1 := stepB (by repeat (first | exact Below.refl _ _ | refine Below.drew ?_ | refine Below.alloc ?_ (Nat.le_refl _) _)) hB1); have C1 := (bcell R1).1; have W1 := hwZ.trans (R1.mono (Below.size hwZ)); have v1a := Nat.lt_of_lt_of_le xa R1.size; have v1b := Nat.lt_of_lt_of_le xb R1.size; have v1c := Nat.lt_of_lt_of_le x5 R1.size; have v1d := Nat.lt_of_lt_of_le hg6' R1.size; (try (have hwr := (Wr.new _ (.bool false) (.slice none 0 0) 183 rfl).keep hB1)); (try (have hwr := (Wr.new _ (.bool false) (.slice none 0 0) 183 rfl).keep (below_undrew' hB1))))
            | (go_at_call 189; (with_reducible refine (HLa.out _).mono ?_); rintro e w2 ⟨rfl, hB2⟩; (have R2 : Below Z.heap.size Z w2 := stepB (by repeat (first | exact R1 | refine Below.drew ?_ | refine Below.alloc ?_ (Below.size R1) _)) hB2); (have S2 : Below w1.heap.size w1 w2 := stepB (by repeat (first | exact Below.refl _ _ | refine Below.drew ?_ | refine Below.alloc ?_ (Nat.le_refl _) _)) hB2); have C2 := (bcell R2).1; have W2 := hwZ.trans (R2.mono (Below.size hwZ)); have v2a := Nat.lt_of_lt_of_le xa R2.size; have v2b := Nat.lt_of_lt_of_le xb R2.size; have v2c := Nat.lt_of_lt_of_le x5 R2.size; have v2d := Nat.lt_of_lt_of_le hg6' R2.size; (try (have hwr := hwr.keep S2)); (try (have hwr := (Wr.new _ (.bool false) (.slice none 0 0) 183 rfl).keep hB2)); (try (have hwr := (Wr.new _ (.bool false) (.slice none 0 0) 183 rfl).keep (below_undrew' hB2))); have hD1b := hD1.keep S2)
            | (go_at_call 214; (with_reducible refine (HO2.out _ L nl cl (by repeat (first | exact W2 | refine Below.drew ?_ | refine Below.alloc ?_ (Below.size W2) _)) (by repeat (first | exact (hDl'.keep R2) | refine D.drew ?_ | refine D.keep ?_ (below_alloc _ _)))).mono ?_); rintro e w3 ⟨U, nu, cu, rfl, hDu, hB3⟩; (have R3 : Below Z.heap.size Z w3 := stepB (by repeat (first | exact R2 | refine Below.drew ?_ | refine Below.alloc ?_ (Below.size R2) _)) hB3); (have S3 : Below w2.heap.size w2 w3 := stepB (by repeat (first | exact Below.refl _ _ | refine Below.drew ?_ | refine Below.alloc ?_ (Nat.le_refl _) _)) hB3); have C3 := (bcell R3).1; have W3 := hwZ.trans (R3.mono (Below.size hwZ)); have v3a := Nat.lt_of_lt_of_le xa R3.size; have v3b := Nat.lt_of_lt_of_le xb R3.size; have v3c := Nat.lt_of_lt_of_le x5 R3.size; have v3d := Nat.lt_of_lt_of_le hg6' R3.size; (try (have hwr := hwr.keep S3)); (try (have hwr := (Wr.new _ (.bool false) (.slice none 0 0) 183 rfl).keep hB3)); (try (have hwr := (Wr.new _ (.bool false) (.slice none 0 0) 183 rfl).keep (below_undrew' hB3))); have hD1c := hD1b.keep S3)
            | (go_at_call 215; (with_reducible refine (HM2.out _ U nu cu (by repeat (first | exact W3 | refine Below.drew ?_ | refine Below.alloc ?_ (Below.size W3) _)) (by repeat (first | exact hDu | refine D.drew ?_ | refine D.keep ?_ (below_alloc _ _)))).mono ?_); rintro e w4 ⟨p2, A2, n2, c2, rfl, hp2, hD2, hB4⟩; (have R4 : Below Z.heap.size Z w4 := stepB (by repeat (first | exact R3 | refine Below.drew ?_ | refine Below.alloc ?_ (Below.size R3) _)) hB4); (have S4 : Below w3.heap.size w3 w4 := stepB (by repeat (first | exact Below.refl _ _ | refine Below.drew ?_ | refine Below.alloc ?_ (Nat.le_refl _) _)) hB4); have C4 := (bcell R4).1; have W4 := hwZ.trans (R4.mono (Below.size hwZ)); have v4a := Nat.lt_of_lt_of_le xa R4.size; have v4b := Nat.lt_of_lt_of_le xb R4.size; have v4c := Nat.lt_of_lt_of_le x5 R4.size; have v4d := Nat.lt_of_lt_of_le hg6' R4.size; (try (have hwr := hwr.keep S4)); (try (have hwr := (Wr.new _ (.bool false) (.slice none 0 0) 183 rfl).keep hB4)); (try (have hwr := (Wr.new _ (.bool false) (.slice none 0 0) 183 rfl).keep (below_undrew' hB4))); have hD1d := hD1c.keep S4)
            | (go_at_call 216; (with_reducible refine (HA.out _ p1 A1 n1 c1 p2 A2 n2 c2 hp1 (by repeat (first | exact hD1d | refine D.drew ?_ | refine D.keep ?_ (below_alloc _ _))) hp2 (by repeat (first | exact hD2 | refine D.drew ?_ | refine D.keep ?_ (below_alloc _ _)))).mono ?_); rintro e w5 ⟨p3, A3, n3, c3, rfl, hp3, hD3, hB5x⟩; (have R5 : Below Z.heap.size Z w5 := stepB (by repeat (first | exact R4 | refine Below.drew ?_ | refine Below.alloc ?_ (Below.size R4) _)) hB5x); (have S5 : Below w4.heap.size w4 w5 := stepB (by repeat (first | exact Below.refl _ _ | refine Below.drew ?_ | refine Below.alloc ?_ (Nat.le_refl _) _)) hB5x); have C5 := (bcell R5).1; have W5 := hwZ.trans (R5.mono (Below.size hwZ)); have v5a := Nat.lt_of_lt_of_le xa R5.size; have v5b := Nat.lt_of_lt_of_le xb R5.size; have v5c := Nat.lt_of_lt_of_le x5 R5.size; have v5d := Nat.lt_of_lt_of_le hg6' R5.size; (try (have hwr := hwr.keep S5)); (try (have hwr := (Wr.new _ (.bool false) (.slice none 0 0) 183 rfl).keep hB5x)); (try (have hwr := (Wr.new _ (.bool false) (.slice none 0 0) 183 rfl).keep (below_undrew' hB5x))); (try (obtain ⟨⟨s1, s2, s3, s4⟩, s5, s6, s7⟩ := id hwr))))
        all_goals go_wp2_with fail
        all_goals go_meet
        all_goals first | exact ⟨_, rfl, _, hp3, cutG_new hD3 R5⟩ | exact ⟨_, rfl, _, hp3, cutG_set hwr R5 (by first | exact Nat.le_refl _ | exact R1.size | exact R2.size | exact R3.size | exact R4.size) hD3⟩
      case rest =>
        obtain ⟨V0, rfl, p3, hp3, g7, M, nm, cm, rfl, hb7, hDM, hZV, hg7, hg7'⟩ := hcut
        have hwV := hwZ.trans (hZV.mono hwZ.size)
        have hWV := hWZ.keep hZV
        have hDlV := hDl'.keep hZV
        have hDfV := hDf.keep hZV
        have KV := Lib.hid (KZ.out.keep xa hZV)
        have HV5 := HZ5.out.keep x5 hZV
        have HV6 := Lib.hid (HZ6.out.keep hg6' hZV)
        have ta := Nat.lt_of_lt_of_le xa hZV.size
        have tc := Nat.lt_of_lt_of_le xc hZV.size
        have t5 := Nat.lt_of_lt_of_le x5 hZV.size
        have t6 := Nat.lt_of_lt_of_le hg6' hZV.size
        have g7n : w.heap.size + 1 + 1 ≠ g7 := by omega
        clear k0 k1 k2 k3 j0 j1 j2 j3 i0 i1 h0 h1 hWZ KZ KZ' hZV hg7 xa xb xc x5 hg6' hDl' hDf HZ5 HZ6 hwZ
        obtain ⟨i0, i1⟩ := HV5
        have HV7 := Lib.hid hb7
        obtain ⟨m0, m1⟩ := hb7
        go_wp2_with fail
        (with_reducible refine (HG2.out _ p3 M nm cm L nl cl hDM hDlV).mono ?_)
        rintro e w1 ⟨R, nr, cr, rfl, hDr, hB1⟩
        have hw1 := hwV.trans (hB1.mono hwV.size)
        have hDM1 := hDM.keep hB1
        have hDf1 := hDfV.keep hB1
        have hW1 := hWV.keep hB1
        have K1 := KV.out.keep ta hB1
        have H6 := HV6.out.keep t6 hB1
        have H7 := HV7.out.keep hg7' hB1
        have ua := Nat.lt_of_lt_of_le ta hB1.size
        have uc := Nat.lt_of_lt_of_le tc hB1.size
        have u6 := Nat.lt_of_lt_of_le t6 hB1.size
        have u7 := Nat.lt_of_lt_of_le hg7' hB1.size
        clear i0 i1 m0 m1
        go_upto_region 5 with fail
        generalize hU : w1.alloc _ = U
        have hUU : Below w1.heap.size w1 U ∧ B2 w1.heap.size (.bool false) (.slice R nr cr) U ∧ w1.heap.size < U.heap.size := by
          subst hU
          exact ⟨below_alloc _ _, B2.new _ _ _ 183, by simp⟩
        obtain ⟨hbU, hb8, hg8⟩ := hUU
        clear hU
        have hwU := hw1.trans (hbU.mono hw1.size)
        have hDMU := hDM1.keep hbU
        have hDfU := hDf1.keep hbU
        have hDrU := hDr.keep hbU
        have hWU := hW1.keep hbU
        obtain ⟨k0, k1, k2, k3⟩ := K1.keep ua hbU
        obtain ⟨h0, h1⟩ := H6.keep u6 hbU
        obtain ⟨m0, m1⟩ := H7.keep u7 hbU
        obtain ⟨n0, n1⟩ := hb8
        have sa := Nat.lt_of_lt_of_le ua hbU.size
        have sc := Nat.lt_of_lt_of_le uc hbU.size
        have s6 := Nat.lt_of_lt_of_le u6 hbU.size
        have s7 := Nat.lt_of_lt_of_le u7 hbU.size
        have g8n : w.heap.size + 1 + 1 ≠ w1.heap.size := by omega
        clear K1 H6 H7 hDM1 hDf1 hDr hW1 hbU hB1 ua uc u6 u7 ta tc t5 t6 hg7' hWV KV HV6 HV7 hDlV hDfV hDM hw1 hwV
        generalize w1.heap.size = g8 at *
        clear sc
        go_region_held3 (fun w' => w'.cell? ⟨w.heap.size, 0, none⟩ = some (.bool b1) ∧ w'.cell? ⟨w.heap.size, 1, none⟩ = some (.slice A n c) ∧ w'.cell? ⟨w.heap.size, 2, none⟩ = some (.bool false) ∧ w'.cell? ⟨w.heap.size, 3, none⟩ = some (.slice B m d) ∧ w'.cell? ⟨g6, 0, none⟩ = some (.bool false) ∧ w'.cell? ⟨g6, 1, none⟩ = some (.slice F nf cf) ∧ w'.cell? ⟨g7, 0, none⟩ = some (.bool p3) ∧ w'.cell? ⟨g7, 1, none⟩ = some (.slice M nm cm) ∧ w'.cell? ⟨g8, 0, none⟩ = some (.bool false) ∧ w'.cell? ⟨g8, 1, none⟩ = some (.slice R nr cr)) (simp [go_sem, *])
          (first
            | (go_at_call 214; (with_reducible refine (HO3.out _ p3 M nm cm R nr cr hp3 (by repeat (first | exact hDMU | refine D.drew ?_ | refine D.keep ?_ (below_alloc _ _))) (by repeat (first | exact hDrU | refine D.drew ?_ | refine D.keep ?_ (below_alloc _ _)))).mono ?_); rintro e w1 ⟨p4, A1, n1, c1, rfl, hp4, hD1, hB1⟩; (have R1 : Below U.heap.size U w1 := stepB (by repeat (first | exact Below.refl _ _ | refine Below.drew ?_ | refine Below.alloc ?_ (Nat.le_refl _) _)) hB1); (have S1 : Below U.heap.size U w1 := stepB (by repeat (first | exact Below.refl _ _ | refine Below.drew ?_ | refine Below.alloc ?_ (Nat.le_refl _) _)) hB1); have C1 := (bcell R1).1; have W1 := hwU.trans (R1.mono (Below.size hwU)); have v1a := Nat.lt_of_lt_of_le sa R1.size; have v1c := Nat.lt_of_lt_of_le s6 R1.size; have v1d := Nat.lt_of_lt_of_le s7 R1.size; have v1e := Nat.lt_of_lt_of_le hg8 R1.size; (try (have hwr := (Wr.new _ (.bool false) (.slice none 0 0) 183 rfl).keep hB1)); (try (have hwr := (Wr.new _ (.bool false) (.slice none 0 0) 183 rfl).keep (below_undrew' hB1))))
            | (go_at_call 189; (with_reducible refine (HLa.out _).mono ?_); rintro e w2 ⟨rfl, hB2⟩; (have R2 : Below U.heap.size U w2 := stepB (by repeat (first | exact R1 | refine Below.drew ?_ | refine Below.alloc ?_ (Below.size R1) _)) hB2); (have S2 : Below w1.heap.size w1 w2 := stepB (by repeat (first | exact Below.refl _ _ | refine Below.drew ?_ | refine Below.alloc ?_ (Nat.le_refl _) _)) hB2); have C2 := (bcell R2).1; have W2 := hwU.trans (R2.mono (Below.size hwU)); have v2a := Nat.lt_of_lt_of_le sa R2.size; have v2c := Nat.lt_of_lt_of_le s6 R2.size; have v2d := Nat.lt_of_lt_of_le s7 R2.size; have v2e := Nat.lt_of_lt_of_le hg8 R2.size; (try (have hwr := hwr.keep S2)); (try (have hwr := (Wr.new _ (.bool false) (.slice none 0 0) 183 rfl).keep hB2)); (try (have hwr := (Wr.new _ (.bool false) (.slice none 0 0) 183 rfl).keep (below_undrew' hB2))); have hD1b := hD1.keep S2)
            | (go_at_call 214; (with_reducible refine (HO4.out _ R nr cr (by repeat (first | exact W2 | refine Below.drew ?_ | refine Below.alloc ?_ (Below.size W2) _)) (by repeat (first | exact (hDrU.keep R2) | refine D.drew ?_ | refine D.keep ?_ (below_alloc _ _)))).mono ?_); rintro e w3 ⟨A2, n2, c2, rfl, hD2, hB3⟩; (have R3 : Below U.heap.size U w3 := stepB (by repeat (first | exact R2 | refine Below.drew ?_ | refine Below.alloc ?_ (Below.size R2) _)) hB3); (have S3 : Below w2.heap.size w2 w3 := stepB (by repeat (first | exact Below.refl _ _ | refine Below.drew ?_ | refine Below.alloc ?_ (Nat.le_refl _) _)) hB3); have C3 := (bcell R3).1; have W3 := hwU.trans (R3.mono (Below.size hwU)); have v3a := Nat.lt_of_lt_of_le sa R3.size; have v3c := Nat.lt_of_lt_of_le s6 R3.size; have v3d := Nat.lt_of_lt_of_le s7 R3.size; have v3e := Nat.lt_of_lt_of_le hg8 R3.size; (try (have hwr := hwr.keep S3)); (try (have hwr := (Wr.new _ (.bool false) (.slice none 0 0) 183 rfl).keep hB3)); (try (have hwr := (Wr.new _ (.bool false) (.slice none 0 0) 183 rfl).keep (below_undrew' hB3))); have hD1c := hD1b.keep S3)
            | (go_at_call 215; (with_reducible refine (HM3.out _ A2 n2 c2 F nf cf (by repeat (first | exact hD2 | refine D.drew ?_ | refine D.keep ?_ (below_alloc _ _))) (by repeat (first | exact (hDfU.keep R3) | refine D.drew ?_ | refine D.keep ?_ (below_alloc _ _)))).mono ?_); rintro e w4 ⟨A3, n3, c3, rfl, hD3, hB4⟩; (have R4 : Below U.heap.size U w4 := stepB (by repeat (first | exact R3 | refine Below.drew ?_ | refine Below.alloc ?_ (Below.size R3) _)) hB4); (have S4 : Below w3.heap.size w3 w4 := stepB (by repeat (first | exact Below.refl _ _ | refine Below.drew ?_ | refine Below.alloc ?_ (Nat.le_refl _) _)) hB4); have C4 := (bcell R4).1; have W4 := hwU.trans (R4.mono (Below.size hwU)); have v4a := Nat.lt_of_lt_of_le sa R4.size; have v4c := Nat.lt_of_lt_of_le s6 R4.size; have v4d := Nat.lt_of_lt_of_le s7 R4.size; have v4e := Nat.lt_of_lt_of_le hg8 R4.size; (try (have hwr := hwr.keep S4)); (try (have hwr := (Wr.new _ (.bool false) (.slice none 0 0) 183 rfl).keep hB4)); (try (have hwr := (Wr.new _ (.bool false) (.slice none 0 0) 183 rfl).keep (below_undrew' hB4))); have hD1d := hD1c.keep S4; obtain ⟨⟨o1, o2, o3, o4, o5, o6, o7, o8⟩, q1, q2, q3, q4, q5⟩ := hWU.keep R4))
        all_goals go_wp2_with fail
        exact bodyPost_ret (v := .agg #[.bool p4, .slice A1 n1 c1, .bool false, .slice A3 n3 c3]) (by simp [results, Tryz.results186, go_sem, o5, o6, o7, o8]) rfl (retR_box' hp4.out hD1d hD3 q5 W4 (by omega))
end Go.Proofs.YtmfnpipmbpnfbaaGreatDoor
