/- Numbers: which are valid. -/
import Derived.Test.YtjoanclnaeephaaGreatRat6
namespace Go.Proofs.YtjoanclnaeephaaGreat
open Go.RowKit

/-- num.divisor. -/
theorem divisorN_any (a b : Nat) (w : World) (ha : a ≤ 4611686018427387904) (hb : b ≤ 4611686018427387904) :
    Calls Tryz.prog 32 #[.int .i64 (a : Int), .int .i64 (b : Int)] w fun e w' => e = .returned (.int .i64 ((Nat.gcd a b : Nat) : Int)) ∧ Drn w w' := by
  have HA := Lib.hid ha
  have HB := Lib.hid hb
  clear ha hb
  go_enter Tryz.func32, Tryz.ntmps32
  go_wp2_with fail
  go_loopw [0, 1] (fun s t wr => ∃ x y : Nat, s = .int .i64 (x : Int) ∧ t = .int .i64 (y : Int) ∧ Hid (x ≤ 4611686018427387904 ∧ y ≤ 4611686018427387904) ∧ Hid (Nat.gcd x y = Nat.gcd a b) ∧ Drn w wr) (fun _ t _ => (intOf t).toNat)
  case atStart => exact ⟨a, b, rfl, rfl, ⟨HA.out, HB.out⟩, rfl, Drn.refl w⟩
  case round =>
    obtain ⟨x, y, rfl, rfl, hxy, hg, hd⟩ := hrel
    rcases Nat.eq_zero_or_pos y with h0 | h0
    · subst h0
      have HG : Hid (Nat.gcd a b = x) := by rw [← hg.out, Nat.gcd_zero_right]; rfl
      go_wp2_with fail
      go_ret
      exact ⟨by rw [HG.out]; rfl, hd⟩
    · have hy0 : ((y : Int) != 0) = true := by rw [bne_iff_ne]; omega
      have hy1 : 0 < (y : Int) := by omega
      have hlt := Nat.mod_lt x h0
      go_wp2_with fail
      go_quiet (fail)
      go_wp2_with fail
      refine ⟨⟨y, x % y, rfl, ?_, ⟨hxy.out.2, Nat.le_trans (Nat.mod_le _ _) hxy.out.1⟩, ?_, hd.more _⟩, ?_⟩
      · first | rw [Int.natCast_emod] | rfl
      · show Nat.gcd y (x % y) = Nat.gcd a b
        rw [← hg.out, Nat.gcd_comm y (x % y), ← Nat.gcd_rec y x, Nat.gcd_comm]
      · simp [intOf]; omega

/-- Is t over l a valid number? -/
def vld (t l : Int) : Bool := !(decide (l < 1)) && !(decide (1152921504606846976 < l)) && !(decide (t < -1152921504606846976)) && !(decide (1152921504606846976 < t)) && (Nat.gcd t.natAbs l.toNat == 1)

set_option maxRecDepth 100000 in
set_option maxHeartbeats 2000000 in
theorem valid_any (t l : Int) (w : World) : Calls Tryz.prog 14 #[.agg #[.int .i64 t, .int .i64 l]] w fun e w' => e = .returned (.bool (vld t l)) ∧ Below w.heap.size w w' := by
  have HV : Hid (vld t l = (!(decide (l < 1)) && !(decide (1152921504606846976 < l)) && !(decide (t < -1152921504606846976)) && !(decide (1152921504606846976 < t)) && (Nat.gcd t.natAbs l.toNat == 1))) := rfl
  have HD : Hid (decide (l < 1) = false → decide (1152921504606846976 < l) = false → decide (t < -1152921504606846976) = false → decide (1152921504606846976 < t) = false →
      IntKind.i64.wrap (-t) = -t ∧ ∀ wx, Calls Tryz.prog 32 #[.int .i64 (max t (-t)), .int .i64 l] wx fun e w' => e = .returned (.int .i64 ((Nat.gcd t.natAbs l.toNat : Nat) : Int)) ∧ Drn wx w') := by
    intro h1 h2 h3 h4
    have h1 := of_decide_eq_false h1
    have h2 := of_decide_eq_false h2
    have h3 := of_decide_eq_false h3
    have h4 := of_decide_eq_false h4
    refine ⟨IntWalk.i64_in _ (by omega), fun wx => ?_⟩
    have e1 : max t (-t) = ((t.natAbs : Nat) : Int) := by omega
    have e2 : l = ((l.toNat : Nat) : Int) := by omega
    rw [e1]
    have := divisorN_any t.natAbs l.toNat wx (by omega) (by omega)
    rw [← e2] at this
    exact this
  revert HV HD
  generalize vld t l = v
  generalize Nat.gcd t.natAbs l.toNat = g
  intro HV HD
  cases g1 : decide (l < 1) <;> rw [g1] at HV HD
  case true =>
    obtain rfl : v = false := HV.out
    clear HV HD
    go_enter Tryz.func14, Tryz.ntmps14
    go_wp2_with fail
    exact bodyPost_ret (v := .bool false) (by simp [results, Tryz.results14, go_sem, *]) rfl (by first | exact ⟨rfl, (Below.refl _ _).alloc (Nat.le_refl _) _⟩)
  cases g2 : decide (1152921504606846976 < l) <;> rw [g2] at HV HD
  case true =>
    obtain rfl : v = false := HV.out
    clear HV HD
    go_enter Tryz.func14, Tryz.ntmps14
    go_wp2_with fail
    exact bodyPost_ret (v := .bool false) (by simp [results, Tryz.results14, go_sem, *]) rfl (by first | exact ⟨rfl, (Below.refl _ _).alloc (Nat.le_refl _) _⟩)
  cases g3 : decide (t < -1152921504606846976) <;> rw [g3] at HV HD
  case true =>
    obtain rfl : v = false := HV.out
    clear HV HD
    go_enter Tryz.func14, Tryz.ntmps14
    go_wp2_with fail
    exact bodyPost_ret (v := .bool false) (by simp [results, Tryz.results14, go_sem, *]) rfl (by first | exact ⟨rfl, (Below.refl _ _).alloc (Nat.le_refl _) _⟩)
  cases g4 : decide (1152921504606846976 < t) <;> rw [g4] at HV HD
  case true =>
    obtain rfl : v = false := HV.out
    clear HV HD
    go_enter Tryz.func14, Tryz.ntmps14
    go_wp2_with fail
    exact bodyPost_ret (v := .bool false) (by simp [results, Tryz.results14, go_sem, *]) rfl (by first | exact ⟨rfl, (Below.refl _ _).alloc (Nat.le_refl _) _⟩)
  have HE : Hid (v = (g == 1)) := HV.out
  have hneg := (HD.out rfl rfl rfl rfl).1
  have HC := Lib.hid (HD.out rfl rfl rfl rfl).2
  clear HV HD
  go_enter Tryz.func14, Tryz.ntmps14
  go_wp2_with fail
  refine (HC.out _).mono ?_
  rintro e w1 ⟨rfl, hd⟩
  have hb : Below w.heap.size w w1 := ((Below.refl _ _).alloc (Nat.le_refl _) _).trans (hd.below _)
  go_wp2_with fail
  exact bodyPost_ret (v := .bool v) (by rw [HE.out]; have hbe : ((g : Int) == 1) = (g == 1) := (by rw [Bool.eq_iff_iff]; simp; omega); simp [results, Tryz.results14, go_sem, hbe]) rfl ⟨rfl, hb⟩

end Go.Proofs.YtjoanclnaeephaaGreat
