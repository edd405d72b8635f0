/- The difference and the quotient of fractions of any size in memory. -/
import Derived.Test.YtmfnpipmbpnfbaaGreatDoorF22
import Derived.Test.YtmfnpipmbpnfbaaGreatDoorF20
import Derived.Test.YtmfnpipmbpnfbaaGreatDoorF21

set_option maxRecDepth 100000
set_option maxHeartbeats 40000000
namespace Go.Proofs.YtmfnpipmbpnfbaaGreatDoor
open Go.RowKit
theorem RetR.q {x : Rat} {A B : Option Addr} {n c m d : Nat} {w : World} (h1 : D w (.slice A n c) x.num.natAbs) (h2 : D w (.slice B m d) x.den) : Q w (decide (x.num < 0)) (.slice A n c) (.slice B m d) x := ⟨rfl, h1, h2⟩
theorem divisorN_any (a b : Nat) (w : World) (ha : a ≤ 4611686018427387904) (hb : b ≤ 4611686018427387904) :
    Calls Tryz.prog 125 #[.int .i64 (a : Int), .int .i64 (b : Int)] w fun e w' => e = .returned (.int .i64 ((Nat.gcd a b : Nat) : Int)) ∧ Drn w w' := by
  have HA := Lib.hid ha
  have HB := Lib.hid hb
  clear ha hb
  go_enter Tryz.func125, Tryz.ntmps125
  go_wp2_with fail
  go_loopw [0, 1] (fun s t wr => ∃ x y : Nat, s = .int .i64 (x : Int) ∧ t = .int .i64 (y : Int) ∧ Hid (x ≤ 4611686018427387904 ∧ y ≤ 4611686018427387904) ∧ Hid (Nat.gcd x y = Nat.gcd a b) ∧ Drn w wr) (fun _ t _ => (intOf t).toNat)
  case atStart => exact ⟨a, b, rfl, rfl, ⟨HA.out, HB.out⟩, rfl, Drn.refl w⟩
  case round =>
    obtain ⟨x, y, rfl, rfl, hxy, hg, hd⟩ := hrel
    rcases Nat.eq_zero_or_pos y with h0 | h0
    · subst h0
      have HG : Hid (Nat.gcd a b = x) := by rw [← hg.out, Nat.gcd_zero_right]; rfl
      go_wp2_with fail
      go_ret
      exact ⟨by rw [HG.out]; rfl, hd⟩
    · have hy0 : ((y : Int) != 0) = true := by rw [bne_iff_ne]; omega
      have hy1 : 0 < (y : Int) := by omega
      have hlt := Nat.mod_lt x h0
      go_wp2_with fail
      go_quiet (fail)
      go_wp2_with fail
      refine ⟨⟨y, x % y, rfl, ?_, ⟨hxy.out.2, Nat.le_trans (Nat.mod_le _ _) hxy.out.1⟩, ?_, hd.more _⟩, ?_⟩
      · first | rw [Int.natCast_emod] | rfl
      · show Nat.gcd y (x % y) = Nat.gcd a b
        rw [← hg.out, Nat.gcd_comm y (x % y), ← Nat.gcd_rec y x, Nat.gcd_comm]
      · simp [intOf]; omega
def vld (t l : Int) : Bool := !(decide (l < 1)) && !(decide (1152921504606846976 < l)) && !(decide (t < -1152921504606846976)) && !(decide (1152921504606846976 < t)) && (Nat.gcd t.natAbs l.toNat == 1)
theorem valid_any (t l : Int) (w : World) : Calls Tryz.prog 93 #[.agg #[.int .i64 t, .int .i64 l]] w fun e w' => e = .returned (.bool (vld t l)) ∧ Below w.heap.size w w' := by
  have HV : Hid (vld t l = (!(decide (l < 1)) && !(decide (1152921504606846976 < l)) && !(decide (t < -1152921504606846976)) && !(decide (1152921504606846976 < t)) && (Nat.gcd t.natAbs l.toNat == 1))) := rfl
  have HD : Hid (decide (l < 1) = false → decide (1152921504606846976 < l) = false → decide (t < -1152921504606846976) = false → decide (1152921504606846976 < t) = false →
      IntKind.i64.wrap (-t) = -t ∧ ∀ wx, Calls Tryz.prog 125 #[.int .i64 (max t (-t)), .int .i64 l] wx fun e w' => e = .returned (.int .i64 ((Nat.gcd t.natAbs l.toNat : Nat) : Int)) ∧ Drn wx w') := by
    intro h1 h2 h3 h4
    have h1 := of_decide_eq_false h1
    have h2 := of_decide_eq_false h2
    have h3 := of_decide_eq_false h3
    have h4 := of_decide_eq_false h4
    refine ⟨IntWalk.i64_in _ (by omega), fun wx => ?_⟩
    have e1 : max t (-t) = ((t.natAbs : Nat) : Int) := by omega
    have e2 : l = ((l.toNat : Nat) : Int) := by omega
    rw [e1]
    have := divisorN_any t.natAbs l.toNat wx (by omega) (by omega)
    rw [← e2] at this
    exact this
  revert HV HD
  generalize vld t l = v
  generalize Nat.gcd t.natAbs l.toNat = g
  intro HV HD
  cases g1 : decide (l < 1) <;> rw [g1] at HV HD
  case true =>
    obtain rfl : v = false := HV.out
    clear HV HD
    go_enter Tryz.func93, Tryz.ntmps93
    go_wp2_with fail
    exact bodyPost_ret (v := .bool false) (by simp [results, Tryz.results93, go_sem, *]) rfl (by first | exact ⟨rfl, (Below.refl _ _).alloc (Nat.le_refl _) _⟩)
  cases g2 : decide (1152921504606846976 < l) <;> rw [g2] at HV HD
  case true =>
    obtain rfl : v = false := HV.out
    clear HV HD
    go_enter Tryz.func93, Tryz.ntmps93
    go_wp2_with fail
    exact bodyPost_ret (v := .bool false) (by simp [results, Tryz.results93, go_sem, *]) rfl (by first | exact ⟨rfl, (Below.refl _ _).alloc (Nat.le_refl _) _⟩)
  cases g3 : decide (t < -1152921504606846976) <;> rw [g3] at HV HD
  case true =>
    obtain rfl : v = false := HV.out
    clear HV HD
    go_enter Tryz.func93, Tryz.ntmps93
    go_wp2_with fail
    exact bodyPost_ret (v := .bool false) (by simp [results, Tryz.results93, go_sem, *]) rfl (by first | exact ⟨rfl, (Below.refl _ _).alloc (Nat.le_refl _) _⟩)
  cases g4 : decide (1152921504606846976 < t) <;> rw [g4] at HV HD
  case true =>
    obtain rfl : v = false := HV.out
    clear HV HD
    go_enter Tryz.func93, Tryz.ntmps93
    go_wp2_with fail
    exact bodyPost_ret (v := .bool false) (by simp [results, Tryz.results93, go_sem, *]) rfl (by first | exact ⟨rfl, (Below.refl _ _).alloc (Nat.le_refl _) _⟩)
  have HE : Hid (v = (g == 1)) := HV.out
  have hneg := (HD.out rfl rfl rfl rfl).1
  have HC := Lib.hid (HD.out rfl rfl rfl rfl).2
  clear HV HD
  go_enter Tryz.func93, Tryz.ntmps93
  go_wp2_with fail
  refine (HC.out _).mono ?_
  rintro e w1 ⟨rfl, hd⟩
  have hb : Below w.heap.size w w1 := ((Below.refl _ _).alloc (Nat.le_refl _) _).trans (hd.below _)
  go_wp2_with fail
  exact bodyPost_ret (v := .bool v) (by rw [HE.out]; have hbe : ((g : Int) == 1) = (g == 1) := (by rw [Bool.eq_iff_iff]; simp; omega); simp [results, Tryz.results93, go_sem, hbe]) rfl ⟨rfl, hb⟩
instance (z : Rat) : Decidable (Fits z) := inferInstanceAs (Decidable (_ ∧ _))
def outN (z : Rat) : Value := if Fits z then .tuple #[.agg #[.int .i64 z.num, .int .i64 (z.den : Int)], .int .i64 0] else .tuple #[.agg #[.int .i64 0, .int .i64 0], .int .i64 3]
theorem num_any (b : Bool) (A B : Option Addr) (n c m d : Nat) (x : Rat) (w : World) (h : Q w b (.slice A n c) (.slice B m d) x) (hn : n ≤ 400000) (hm : m ≤ 400000) :
    Calls Tryz.prog 152 #[.agg #[.bool b, .slice A n c, .bool false, .slice B m d]] w fun e w' => e = .returned (outN x) ∧ Below w.heap.size w w' := by
  by_cases hf : Fits x
  · have e : outN x = .tuple #[.agg #[.int .i64 x.num, .int .i64 (x.den : Int)], .int .i64 0] := if_pos hf
    rw [e]
    exact num_ok b A B n c m d x w h hm hf
  · have e : outN x = .tuple #[.agg #[.int .i64 0, .int .i64 0], .int .i64 3] := if_neg hf
    rw [e]
    exact num_full b A B n c m d x w h hn hm hf
theorem norm_le (n : Int) (d : Nat) (h : d ≠ 0) : (Rat.normalize n d h).num.natAbs ≤ n.natAbs ∧ (Rat.normalize n d h).den ≤ d := by
  rw [Rat.normalize_eq]
  exact ⟨Int.natAbs_ediv_le_natAbs _ _, Nat.div_le_self _ _⟩
theorem vld_le {x : Rat} (h : vld x.num (x.den : Int) = true) : x.num.natAbs ≤ 1152921504606846976 ∧ x.den ≤ 1152921504606846976 := by
  simp [vld] at h
  omega
theorem len2 {w : World} {A : Option Addr} {n c x : Nat} (h : D w (.slice A n c) x) (hx : x ≤ 1152921504606846976) : n ≤ 2 := h.len (Nat.lt_of_le_of_lt hx (by show _ < (4294967296 : Nat) ^ 2; decide))
def fr (t l : Int) : Rat := mkRat t l.toNat
theorem fr_of (x : Rat) : fr x.num (x.den : Int) = x := by
  show mkRat x.num ((x.den : Int)).toNat = x
  rw [Int.toNat_natCast]
  exact Rat.mkRat_self x
theorem vld_rat {t l : Int} (h : vld t l = true) : ∃ x : Rat, x.num = t ∧ (x.den : Int) = l ∧ fr t l = x := by
  have h1 : 1 ≤ l ∧ Nat.gcd t.natAbs l.toNat = 1 := by
    simp [vld] at h
    exact ⟨by omega, h.2⟩
  have e : ((l.toNat : Nat) : Int) = l := by omega
  refine ⟨⟨t, l.toNat, by omega, h1.2⟩, rfl, e, ?_⟩
  have := fr_of ⟨t, l.toNat, by omega, h1.2⟩
  simp only [e] at this
  exact this
def outT (z : Rat) : Int × Int × Int := if Fits z then (z.num, (z.den : Int), 0) else (0, 0, 3)
def val3 (r : Int × Int × Int) : Value := .tuple #[.agg #[.int .i64 r.1, .int .i64 r.2.1], .int .i64 r.2.2]
theorem outN_val (z : Rat) : outN z = val3 (outT z) := by
  unfold outN outT val3
  split <;> rfl
def qt (z z' : Int) : Rat := mkRat (if z' < 0 then -z else z) z'.natAbs
theorem qt_parts (z z' : Int) (h0 : z' ≠ 0) : (if z' < 0 then -z else z).tdiv ((Nat.gcd z.natAbs z'.natAbs : Nat) : Int) = (qt z z').num ∧ (if z' < 0 then -z' else z').tdiv ((Nat.gcd z.natAbs z'.natAbs : Nat) : Int) = ((qt z z').den : Int) := by
  obtain ⟨N, hN⟩ : ∃ N, (if z' < 0 then -z else z) = N := ⟨_, rfl⟩
  have hNa : N.natAbs = z.natAbs := by rw [← hN]; split <;> simp
  have hD : (if z' < 0 then -z' else z') = (z'.natAbs : Int) := by split <;> omega
  have hd : z'.natAbs ≠ 0 := by omega
  obtain ⟨d, hde⟩ : ∃ d, z'.natAbs = d := ⟨_, rfl⟩
  obtain ⟨G, hG⟩ : ∃ G, Nat.gcd z.natAbs d = G := ⟨_, rfl⟩
  unfold qt
  rw [hD, hN, hde, hG]
  rw [hde] at hd
  have hg : N.natAbs.gcd d = G := by rw [hNa]; exact hG
  have hGd : G ∣ d := by rw [← hG]; exact Nat.gcd_dvd_right _ _
  have hGn : (G : Int) ∣ N := by
    rw [← Int.natAbs_dvd_natAbs, Int.natAbs_natCast, hNa, ← hG]
    exact Nat.gcd_dvd_left _ _
  have h1 := rat_ratio (n := N) (t := N.tdiv (G : Int)) (d := d) (l := d / G) (g := G) hd hg (Int.tdiv_mul_cancel hGn).symm (Nat.div_mul_cancel hGd).symm
  exact ⟨h1.1.symm, by rw [h1.2]; exact (Int.ofNat_tdiv d G).symm⟩
theorem qt_le (z z' : Int) (h0 : z' ≠ 0) : (qt z z').num.natAbs ≤ z.natAbs ∧ (qt z z').den ≤ z'.natAbs := by
  obtain ⟨h1, h2⟩ := qt_parts z z' h0
  constructor
  · rw [← h1, Int.natAbs_tdiv]
    refine Nat.le_trans (Nat.div_le_self _ _) ?_
    split <;> simp
  · have : ((qt z z').den : Int).natAbs ≤ z'.natAbs := by
      rw [← h2, Int.natAbs_tdiv]
      refine Nat.le_trans (Nat.div_le_self _ _) ?_
      split <;> simp
    simpa using this
theorem qt_add (x y : Rat) : qt (x.num * (y.den : Int) + y.num * (x.den : Int)) ((x.den : Int) * (y.den : Int)) = x + y := by
  have h : ¬ ((x.den : Int) * (y.den : Int) < 0) := by rw [← Int.natCast_mul]; omega
  unfold qt
  rw [if_neg h, ← Int.natCast_mul, Int.natAbs_natCast, Rat.add_def']
def RFV (w : World) (v : Value) (x : Rat) : Prop := ∃ s neg A n c s' neg' A' n' c', v = .agg #[.int .i64 s, .bool neg, .slice A n c, .int .i64 s', .bool neg', .slice A' n' c'] ∧ RI w s neg A n c x.num ∧ RI w s' neg' A' n' c' (x.den : Int)
theorem RFV.keep {w w' : World} {v : Value} {x : Rat} (h : RFV w v x) (hb : Below w.heap.size w w') : RFV w' v x := by
  obtain ⟨s, neg, A, n, c, s', neg', A', n', c', e, h1, h2⟩ := h
  exact ⟨s, neg, A, n, c, s', neg', A', n', c', e, h1.keep hb, h2.keep hb⟩
inductive Sp where
  | val (v : Value)
  | int (z : Int)
  | rat (x : Rat)
def Sp.ok : Sp → Value → World → Prop
  | .val v, u, _ => u = v
  | .int z, u, w => IV w u z
  | .rat x, u, w => RFV w u x
theorem Sp.keep {s : Sp} {u : Value} {w w' : World} (h : s.ok u w) (hb : Below w.heap.size w w') : s.ok u w' := by
  cases s with
  | val v => exact h
  | int z => exact IV.keep h hb
  | rat x => exact RFV.keep h hb
def Spl (L : List Sp) (i : Nat) (u : Value) (w : World) : Prop := (L.getD i (.val (.int .i64 0))).ok u w
theorem Spl.keep {L : List Sp} (i : Nat) (u : Value) (w w' : World) (hb : Below w.heap.size w w') (h : Spl L i u w) : Spl L i u w' := Sp.keep h hb
def RetV (s : Sp) (w : World) (e : Ending) (w' : World) : Prop := ∃ u, e = .returned u ∧ s.ok u w' ∧ Below w.heap.size w w'
theorem RetI.v {z : Int} {w : World} {e : Ending} {w' : World} (h : RetI z w e w') : RetV (.int z) w e w' := by
  obtain ⟨s, neg, A, n, c, rfl, h1, h2⟩ := h
  exact ⟨_, rfl, ⟨s, neg, A, n, c, rfl, h1⟩, h2⟩
theorem iv_times (K : Nat) {u u' : Value} {z z' : Int} {w : World} (h : IV w u z) (h' : IV w u' z') (hK : K ≤ 250000) (hz : z.natAbs < Bs ^ K) (hz' : z'.natAbs < Bs ^ K) : Calls Tryz.prog 106 #[u, u'] w (RetV (.int (z * z')) w) := by
  obtain ⟨s, neg, A, n, c, rfl, h1⟩ := h
  obtain ⟨s', neg', A', n', c', rfl, h2⟩ := h'
  exact (rtimes_any _ _ _ _ _ _ _ _ _ _ K _ _ w h1 h2 hK hz hz').mono fun _ _ => RetI.v
theorem iv_plus (K : Nat) {u u' : Value} {z z' : Int} {w : World} (h : IV w u z) (h' : IV w u' z') (hK : K ≤ 250000) (hz : z.natAbs < Bs ^ K) (hz' : z'.natAbs < Bs ^ K) : Calls Tryz.prog 130 #[u, u'] w (RetV (.int (z + z')) w) := by
  obtain ⟨s, neg, A, n, c, rfl, h1⟩ := h
  obtain ⟨s', neg', A', n', c', rfl, h2⟩ := h'
  exact (rplus_any _ _ _ _ _ _ _ _ _ _ K _ _ w h1 h2 hK hz hz').mono fun _ _ => RetI.v
theorem iv_gcd (K : Nat) {u u' : Value} {z z' : Int} {w : World} (h : IV w u z) (h' : IV w u' z') (hK : K ≤ 250000) (hz : z.natAbs < Bs ^ K) (hz' : z'.natAbs < Bs ^ K) : Calls Tryz.prog 128 #[u, u'] w (RetV (.int (Nat.gcd z.natAbs z'.natAbs : Nat)) w) := by
  obtain ⟨s, neg, A, n, c, rfl, h1⟩ := h
  obtain ⟨s', neg', A', n', c', rfl, h2⟩ := h'
  exact (rgcd_any _ _ _ _ _ _ _ _ _ _ K _ _ w h1 h2 hK hz hz').mono fun _ _ => RetI.v
theorem iv_compare (K : Nat) {u u' : Value} {z z' : Int} {w : World} (h : IV w u z) (h' : IV w u' z') (hK : K ≤ 250000) (hz : z.natAbs < Bs ^ K) (hz' : z'.natAbs < Bs ^ K) : Calls Tryz.prog 71 #[u, u'] w (RetV (.val (.int .i64 (sgnI (z - z')))) w) := by
  obtain ⟨s, neg, A, n, c, rfl, h1⟩ := h
  obtain ⟨s', neg', A', n', c', rfl, h2⟩ := h'
  refine (rcompare_any _ _ _ _ _ _ _ _ _ _ K _ _ w h1 h2 hK hz hz').mono ?_
  rintro e w' ⟨rfl, hB⟩
  exact ⟨_, rfl, rfl, hB⟩
theorem iv_minus (K : Nat) {u : Value} {z : Int} {w : World} (h : IV w u z) (hK : K ≤ 250000) (hz : z.natAbs < Bs ^ K) : Calls Tryz.prog 136 #[u] w (RetV (.int (-z)) w) := by
  obtain ⟨s, neg, A, n, c, rfl, h1⟩ := h
  exact (rminus_any _ _ _ _ _ _ w h1 (by have := h1.len hz; omega)).mono fun _ _ => RetI.v
theorem iv_sign (K : Nat) {u : Value} {z : Int} {w : World} (h : IV w u z) (hK : K ≤ 250000) (hz : z.natAbs < Bs ^ K) : Calls Tryz.prog 108 #[u] w (RetV (.val (.int .i64 (sgnI z))) w) := by
  obtain ⟨s, neg, A, n, c, rfl, h1⟩ := h
  refine (rsign_any _ _ _ _ _ _ w h1 (by have := h1.len hz; omega)).mono ?_
  rintro e w' ⟨rfl, hB⟩
  exact ⟨_, rfl, rfl, hB⟩
theorem iv_of (z : Int) (w : World) (h1 : -9223372036854775808 ≤ z) (h2 : z ≤ 9223372036854775807) : Calls Tryz.prog 70 #[.int .i64 z] w (RetV (.int z) w) := (rof_any z w h1 h2).mono fun _ _ => RetI.v
theorem iv_make (K : Nat) {u u' : Value} {z z' : Int} {w : World} (h : IV w u z) (h' : IV w u' z') (hK : K ≤ 250000) (hz : z.natAbs < Bs ^ K) (hz' : z'.natAbs < Bs ^ K) (h0 : z' ≠ 0) : Calls Tryz.prog 129 #[u, u'] w (RetV (.rat (qt z z')) w) := by
  obtain ⟨s, neg, A, n, c, rfl, h1⟩ := h
  obtain ⟨s', neg', A', n', c', rfl, h2⟩ := h'
  refine (rmake_any _ _ _ _ _ _ _ _ _ _ K _ _ w h1 h2 hK hz hz' h0).mono ?_
  obtain ⟨e1, e2⟩ := qt_parts z z' h0
  rw [e1, e2]
  rintro e w' ⟨s, neg, A, n, c, s', neg', A', n', c', rfl, k1, k2, k3⟩
  exact ⟨_, rfl, ⟨s, neg, A, n, c, s', neg', A', n', c', rfl, k1, k2⟩, k3⟩
def B6 (g : Nat) (a b c d e f : Value) (w : World) : Prop := w.cell? ⟨g, 0, none⟩ = some a ∧ w.cell? ⟨g, 1, none⟩ = some b ∧ w.cell? ⟨g, 2, none⟩ = some c ∧ w.cell? ⟨g, 3, none⟩ = some d ∧ w.cell? ⟨g, 4, none⟩ = some e ∧ w.cell? ⟨g, 5, none⟩ = some f ∧ g < w.heap.size
theorem B6.keep {g : Nat} {a b c d e f : Value} {w w' : World} (h : B6 g a b c d e f w) (hb : Below w.heap.size w w') : B6 g a b c d e f w' := by
  obtain ⟨h0, h1, h2, h3, h4, h5, hz⟩ := h
  exact ⟨(hb.cell (p := ⟨g, 0, none⟩) hz).trans h0, (hb.cell (p := ⟨g, 1, none⟩) hz).trans h1, (hb.cell (p := ⟨g, 2, none⟩) hz).trans h2, (hb.cell (p := ⟨g, 3, none⟩) hz).trans h3, (hb.cell (p := ⟨g, 4, none⟩) hz).trans h4, (hb.cell (p := ⟨g, 5, none⟩) hz).trans h5, Nat.lt_of_lt_of_le hz hb.size⟩
theorem W6.put {g : Nat} {w : World} (h : W6 g w) (a b c d e f : Value) : B6 g a b c d e f (set6 w g a b c d e f) := by
  obtain ⟨⟨p, q, r, p', q', r', h0, h1, h2, h3, h4, h5⟩, -, hx⟩ := h
  have hz := hx.lt
  refine ⟨?_, ?_, ?_, ?_, ?_, ?_, ?_⟩
  · simp [set6, go_sem, h0]
  · simp [set6, go_sem, h1]
  · simp [set6, go_sem, h2]
  · simp [set6, go_sem, h3]
  · simp [set6, go_sem, h4]
  · simp [set6, go_sem, h5]
  · exact Nat.lt_of_lt_of_le hz (Nat.le_trans (Nat.le_trans (Nat.le_trans (size_set _ _ _ _) (size_set _ _ _ _)) (size_set _ _ _ _)) (Nat.le_trans (Nat.le_trans (size_set _ _ _ _) (size_set _ _ _ _)) (size_set _ _ _ _)))
structure F2 (w : World) (a b c d e f a' b' c' d' e' f' : Value) (wx : World) : Prop where
  below : Below w.heap.size w wx
  ba : B6 w.heap.size a b c d e f wx
  bb : B6 (w.heap.size + 1) a' b' c' d' e' f' wx
  wc : W6 (w.heap.size + 1 + 1) wx
theorem F2.keep {w : World} {a b c d e f a' b' c' d' e' f' : Value} (wx wy : World) (h : F2 w a b c d e f a' b' c' d' e' f' wx) (hb : Below wx.heap.size wx wy) : F2 w a b c d e f a' b' c' d' e' f' wy :=
  ⟨h.below.trans (hb.mono h.below.size), h.ba.keep hb, h.bb.keep hb, h.wc.keep hb⟩
theorem F2.new (w : World) (a b c d e f a' b' c' d' e' f' p q r p' q' r' : Value) : F2 w a b c d e f a' b' c' d' e' f' (((w.alloc (.cells #[a, b, c, d, e, f] 127)).alloc (.cells #[a', b', c', d', e', f'] 127)).alloc (.cells #[p, q, r, p', q', r'] 127)) := by
  refine ⟨(((Below.refl _ _).alloc (Nat.le_refl _) _).alloc (by simp) _).alloc (by simp; omega) _, ?_, ?_, W6.new _ _ _ _ _ _ _ (by simp)⟩
  · simp [B6, go_sem]
  · simp [B6, go_sem]
structure F1 (w : World) (a b c d e f : Value) (wx : World) : Prop where
  below : Below w.heap.size w wx
  ba : B6 w.heap.size a b c d e f wx
  wc : W6 (w.heap.size + 1) wx
theorem F1.keep {w : World} {a b c d e f : Value} (wx wy : World) (h : F1 w a b c d e f wx) (hb : Below wx.heap.size wx wy) : F1 w a b c d e f wy :=
  ⟨h.below.trans (hb.mono h.below.size), h.ba.keep hb, h.wc.keep hb⟩
theorem F1.new (w : World) (a b c d e f p q r p' q' r' : Value) : F1 w a b c d e f ((w.alloc (.cells #[a, b, c, d, e, f] 127)).alloc (.cells #[p, q, r, p', q', r'] 127)) := by
  refine ⟨((Below.refl _ _).alloc (Nat.le_refl _) _).alloc (by simp) _, ?_, W6.new _ _ _ _ _ _ _ (by simp)⟩
  simp [B6, go_sem]
def EndR (w : World) (g : Nat) (x : Rat) (wf : World) : Prop := ∃ s neg A n c s' neg' A' n' c', B6 g (.int .i64 s) (.bool neg) (.slice A n c) (.int .i64 s') (.bool neg') (.slice A' n' c') wf ∧ RI wf s neg A n c x.num ∧ RI wf s' neg' A' n' c' (x.den : Int) ∧ Below w.heap.size w wf
theorem endR_store {w wx : World} {g : Nat} {x : Rat} {s s' : Int} {neg neg' : Bool} {A A' : Option Addr} {n c n' c' : Nat} (hB : Below w.heap.size w wx) (hg : w.heap.size ≤ g) (hW : W6 g wx) (h : RI wx s neg A n c x.num) (h' : RI wx s' neg' A' n' c' (x.den : Int)) : EndR w g x (set6 wx g (.int .i64 s) (.bool neg) (.slice A n c) (.int .i64 s') (.bool neg') (.slice A' n' c')) :=
  ⟨s, neg, A, n, c, s', neg', A', n', c', hW.put _ _ _ _ _ _, h.set_6 hW.2.2 _ _ _ _ _ _, h'.set_6 hW.2.2 _ _ _ _ _ _, set6_below hB hg _ _ _ _ _ _⟩
end Go.Proofs.YtmfnpipmbpnfbaaGreatDoor
