/- The difference and the quotient of fractions of any size in memory. Numbers: which are valid. The quotient of fractions of any size in memory. -/
import Derived.Test.YtabaknkjcoibpaaGreatDoorM26

namespace Go.Proofs.YtabaknkjcoibpaaGreatDoor
open Go.RowKit

theorem RetR.q {x : Rat} {A B : Option Addr} {n c m d : Nat} {w : World} (h1 : D w (.slice A n c) x.num.natAbs) (h2 : D w (.slice B m d) x.den) : Q w (decide (x.num < 0)) (.slice A n c) (.slice B m d) x := ⟨rfl, h1, h2⟩

end Go.Proofs.YtabaknkjcoibpaaGreatDoor

namespace Go.Proofs.YtabaknkjcoibpaaGreatDoor
open Go.RowKit

/-- num.divisor. -/
theorem divisorN_any (a b : Nat) (w : World) (ha : a ≤ 4611686018427387904) (hb : b ≤ 4611686018427387904) :
    Calls Tryz.prog 125 #[.int .i64 (a : Int), .int .i64 (b : Int)] w fun e w' => e = .returned (.int .i64 ((Nat.gcd a b : Nat) : Int)) ∧ Drn w w' := by
  have HA := Lib.hid ha
  have HB := Lib.hid hb
  clear ha hb
  go_enter Tryz.func125, Tryz.ntmps125
  go_wp2_with fail
  go_loopw [0, 1] (fun s t wr => ∃ x y : Nat, s = .int .i64 (x : Int) ∧ t = .int .i64 (y : Int) ∧ Hid (x ≤ 4611686018427387904 ∧ y ≤ 4611686018427387904) ∧ Hid (Nat.gcd x y = Nat.gcd a b) ∧ Drn w wr) (fun _ t _ => (intOf t).toNat)
  case atStart => exact ⟨a, b, rfl, rfl, ⟨HA.out, HB.out⟩, rfl, Drn.refl w⟩
  case round =>
    obtain ⟨x, y, rfl, rfl, hxy, hg, hd⟩ := hrel
    rcases Nat.eq_zero_or_pos y with h0 | h0
    · subst h0
      have HG : Hid (Nat.gcd a b = x) := by rw [← hg.out, Nat.gcd_zero_right]; rfl
      go_wp2_with fail
      go_ret
      exact ⟨by rw [HG.out]; rfl, hd⟩
    · have hy0 : ((y : Int) != 0) = true := by rw [bne_iff_ne]; omega
      have hy1 : 0 < (y : Int) := by omega
      have hlt := Nat.mod_lt x h0
      go_wp2_with fail
      go_quiet (fail)
      go_wp2_with fail
      refine ⟨⟨y, x % y, rfl, ?_, ⟨hxy.out.2, Nat.le_trans (Nat.mod_le _ _) hxy.out.1⟩, ?_, hd.more _⟩, ?_⟩
      · first | rw [Int.natCast_emod] | rfl
      · show Nat.gcd y (x % y) = Nat.gcd a b
        rw [← hg.out, Nat.gcd_comm y (x % y), ← Nat.gcd_rec y x, Nat.gcd_comm]
      · simp [intOf]; omega

/-- Is t over l a valid number? -/
def vld (t l : Int) : Bool := !(decide (l < 1)) && !(decide (1152921504606846976 < l)) && !(decide (t < -1152921504606846976)) && !(decide (1152921504606846976 < t)) && (Nat.gcd t.natAbs l.toNat == 1)

set_option maxRecDepth 100000 in
set_option maxHeartbeats 2000000 in
theorem valid_any (t l : Int) (w : World) : Calls Tryz.prog 93 #[.agg #[.int .i64 t, .int .i64 l]] w fun e w' => e = .returned (.bool (vld t l)) ∧ Below w.heap.size w w' := by
  have HV : Hid (vld t l = (!(decide (l < 1)) && !(decide (1152921504606846976 < l)) && !(decide (t < -1152921504606846976)) && !(decide (1152921504606846976 < t)) && (Nat.gcd t.natAbs l.toNat == 1))) := rfl
  have HD : Hid (decide (l < 1) = false → decide (1152921504606846976 < l) = false → decide (t < -1152921504606846976) = false → decide (1152921504606846976 < t) = false →
      IntKind.i64.wrap (-t) = -t ∧ ∀ wx, Calls Tryz.prog 125 #[.int .i64 (max t (-t)), .int .i64 l] wx fun e w' => e = .returned (.int .i64 ((Nat.gcd t.natAbs l.toNat : Nat) : Int)) ∧ Drn wx w') := by
    intro h1 h2 h3 h4
    have h1 := of_decide_eq_false h1
    have h2 := of_decide_eq_false h2
    have h3 := of_decide_eq_false h3
    have h4 := of_decide_eq_false h4
    refine ⟨IntWalk.i64_in _ (by omega), fun wx => ?_⟩
    have e1 : max t (-t) = ((t.natAbs : Nat) : Int) := by omega
    have e2 : l = ((l.toNat : Nat) : Int) := by omega
    rw [e1]
    have := divisorN_any t.natAbs l.toNat wx (by omega) (by omega)
    rw [← e2] at this
    exact this
  revert HV HD
  generalize vld t l = v
  generalize Nat.gcd t.natAbs l.toNat = g
  intro HV HD
  cases g1 : decide (l < 1) <;> rw [g1] at HV HD
  case true =>
    obtain rfl : v = false := HV.out
    clear HV HD
    go_enter Tryz.func93, Tryz.ntmps93
    go_wp2_with fail
    exact bodyPost_ret (v := .bool false) (by simp [results, Tryz.results93, go_sem, *]) rfl (by first | exact ⟨rfl, (Below.refl _ _).alloc (Nat.le_refl _) _⟩)
  cases g2 : decide (1152921504606846976 < l) <;> rw [g2] at HV HD
  case true =>
    obtain rfl : v = false := HV.out
    clear HV HD
    go_enter Tryz.func93, Tryz.ntmps93
    go_wp2_with fail
    exact bodyPost_ret (v := .bool false) (by simp [results, Tryz.results93, go_sem, *]) rfl (by first | exact ⟨rfl, (Below.refl _ _).alloc (Nat.le_refl _) _⟩)
  cases g3 : decide (t < -1152921504606846976) <;> rw [g3] at HV HD
  case true =>
    obtain rfl : v = false := HV.out
    clear HV HD
    go_enter Tryz.func93, Tryz.ntmps93
    go_wp2_with fail
    exact bodyPost_ret (v := .bool false) (by simp [results, Tryz.results93, go_sem, *]) rfl (by first | exact ⟨rfl, (Below.refl _ _).alloc (Nat.le_refl _) _⟩)
  cases g4 : decide (1152921504606846976 < t) <;> rw [g4] at HV HD
  case true =>
    obtain rfl : v = false := HV.out
    clear HV HD
    go_enter Tryz.func93, Tryz.ntmps93
    go_wp2_with fail
    exact bodyPost_ret (v := .bool false) (by simp [results, Tryz.results93, go_sem, *]) rfl (by first | exact ⟨rfl, (Below.refl _ _).alloc (Nat.le_refl _) _⟩)
  have HE : Hid (v = (g == 1)) := HV.out
  have hneg := (HD.out rfl rfl rfl rfl).1
  have HC := Lib.hid (HD.out rfl rfl rfl rfl).2
  clear HV HD
  go_enter Tryz.func93, Tryz.ntmps93
  go_wp2_with fail
  refine (HC.out _).mono ?_
  rintro e w1 ⟨rfl, hd⟩
  have hb : Below w.heap.size w w1 := ((Below.refl _ _).alloc (Nat.le_refl _) _).trans (hd.below _)
  go_wp2_with fail
  exact bodyPost_ret (v := .bool v) (by rw [HE.out]; have hbe : ((g : Int) == 1) = (g == 1) := (by rw [Bool.eq_iff_iff]; simp; omega); simp [results, Tryz.results93, go_sem, hbe]) rfl ⟨rfl, hb⟩

end Go.Proofs.YtabaknkjcoibpaaGreatDoor

namespace Go.Proofs.YtabaknkjcoibpaaGreatDoor
open Go.RowKit

theorem B4.new (w : World) (p q r s : Value) (T : Nat) : B4 w.heap.size p q r s (w.alloc (.cells #[p, q, r, s] T)) := by simp [B4, go_sem]

/-- Slot s points to a new box of four cells. -/
def CutQ (X : World) (p q r u : Value) (s : Value) (wx : World) : Prop :=
  ∃ g, s = .pointer (some ⟨g, 0, none⟩) ∧ B4 g p q r u wx ∧ Wr4 g 185 wx ∧ Below X.heap.size X wx ∧ X.heap.size ≤ g ∧ g < wx.heap.size
theorem cutQ_new {X w2 : World} {p q r u : Value} (hB : Below X.heap.size X w2) : CutQ X p q r u (.pointer (some ⟨w2.heap.size, 0, none⟩)) (w2.alloc (.cells #[p, q, r, u] 185)) :=
  ⟨w2.heap.size, rfl, B4.new w2 _ _ _ _ 185, Wr4.new w2 _ _ _ _ 185 rfl, hB.alloc hB.size _, hB.size, by simp⟩
theorem Wr4.set {g : Nat} {w : World} (h : Wr4 g 185 w) (p q r u : Value) : B4 g p q r u ((((w.setCell ⟨g, 0, none⟩ p).setCell ⟨g, 1, none⟩ q).setCell ⟨g, 2, none⟩ r).setCell ⟨g, 3, none⟩ u) ∧ Wr4 g 185 ((((w.setCell ⟨g, 0, none⟩ p).setCell ⟨g, 1, none⟩ q).setCell ⟨g, 2, none⟩ r).setCell ⟨g, 3, none⟩ u) := by
  obtain ⟨⟨a, b, c, d, h1, h2, h3, h4⟩, f1, f2, f3, f4, hx⟩ := h
  have hb : B4 g p q r u ((((w.setCell ⟨g, 0, none⟩ p).setCell ⟨g, 1, none⟩ q).setCell ⟨g, 2, none⟩ r).setCell ⟨g, 3, none⟩ u) := by simp [B4, go_sem, h1, h2, h3, h4]
  refine ⟨hb, ⟨p, q, r, u, hb.1, hb.2.1, hb.2.2.1, hb.2.2.2⟩, ?_, ?_, ?_, ?_, (((hx.set _ _ _).set _ _ _).set _ _ _).set _ _ _⟩ <;> simp [go_sem, f1, f2, f3, f4]
theorem cutQ_set {X w2 : World} {p q r u : Value} {g : Nat} (hW : Wr4 g 185 w2) (hB : Below X.heap.size X w2) (hg : X.heap.size ≤ g) : CutQ X p q r u (.pointer (some ⟨g, 0, none⟩)) ((((w2.setCell ⟨g, 0, none⟩ p).setCell ⟨g, 1, none⟩ q).setCell ⟨g, 2, none⟩ r).setCell ⟨g, 3, none⟩ u) := by
  have hsz : g < w2.heap.size := by obtain ⟨_, _, _, _, _, cs, fr, hc⟩ := hW; exact lt_of_heap hc
  exact ⟨g, rfl, (hW.set p q r u).1, (hW.set p q r u).2, (((hB.setCell hg _).setCell hg _).setCell hg _).setCell hg _, hg, by simpa [World.setCell] using hsz⟩

theorem inv_num (y : Rat) (hy : y.num ≠ 0) : (y⁻¹).num.natAbs = y.den ∧ (y⁻¹).den = y.num.natAbs := by
  rw [Rat.num_inv, Rat.den_inv, if_neg hy]
  refine ⟨?_, rfl⟩
  rw [Int.natAbs_mul, Int.natAbs_natCast]
  have : y.num.sign.natAbs = 1 := by rw [Int.natAbs_sign]; exact if_neg hy
  rw [this, Nat.one_mul]

end Go.Proofs.YtabaknkjcoibpaaGreatDoor
