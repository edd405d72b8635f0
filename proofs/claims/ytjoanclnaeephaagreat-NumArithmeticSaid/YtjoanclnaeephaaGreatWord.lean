/- Words as digits and back; division of words. -/
import Derived.Test.YtjoanclnaeephaaGreatCmp
namespace Go.Proofs.YtjoanclnaeephaaGreat
open Go.RowKit

theorem two_row (w : World) (a b : Nat) {p q : Int} (hp : p = (a : Int)) (hq : q = (b : Int)) : Row (w.alloc (.cells #[.int .u32 p, .int .u32 q] 80)) w.heap.size 2 (fun j => if j = 0 then a else b) := by
  subst hp hq
  refine World.rowIs_alloc w #[.int .u32 (a : Int), .int .u32 (b : Int)] 80 _ ?_
  intro i hi
  match i, hi with
  | 0, _ => rfl
  | 1, _ => rfl

theorem word_any (x : Nat) (w : World) (hx : x < 18446744073709551616) : Calls Tryz.prog 77 #[.int .u64 (x : Int)] w (RetD x w) := by
  have e1 : (x : Int) % 4294967296 = ((x % 4294967296 : Nat) : Int) := by omega
  have e2 : (x : Int) / 4294967296 = ((x / 4294967296 : Nat) : Int) := by omega
  have HR := Lib.hid (two_row w (x % 4294967296) (x / 4294967296) e1 e2)
  have HX := Lib.hid hx
  clear e1 e2
  go_enter Tryz.func77, Tryz.ntmps77
  go_wp2_with fail
  refine (trim_any _ _ _ _ _ (Nat.le_refl _) (by omega) (HR.out.dg (Nat.le_refl _))).mono ?_
  rintro e w' ⟨q, rfl, hq, hN, hQ, rfl⟩
  go_wp2_with fail
  go_ret
  refine ⟨_, rfl, ⟨_, q, _, _, rfl, by omega, fun i hi => ?_, hN, hQ.trans ?_, ?_, HR.out.tt _⟩, (Below.refl _ _).alloc (Nat.le_refl _) _⟩
  · show (if i = 0 then _ else _) < W
    have := HX.out
    rw [W_eq]
    split <;> omega
  · simp [V_succ, V_zero, W_eq]; omega
  · intro h0
    obtain ⟨b, off, e1, e2, e3⟩ := HR.out.dg (Nat.le_refl _) (by omega)
    exact ⟨b, off, e1, e2, fun i hi => e3 i (by omega)⟩

set_option maxRecDepth 100000 in
theorem wordm_any (A : Option Addr) (n ca : Nat) (f : Nat → Nat) (w : World) (hn : n ≤ 2) (hA : Dg w A n f) (hf : ∀ i, i < n → f i < W) :
    Calls Tryz.prog 79 #[.slice A n ca] w fun e w' => e = .returned (.int .u64 ((V f n : Nat) : Int)) ∧ w = w' := by
  have HF := Lib.hid hf
  clear hf
  go_enter Tryz.func79, Tryz.ntmps79
  go_wp2_with fail
  go_loop [3, 8] (fun v i => ∃ k : Nat, k ≤ n ∧ i = .int .i64 (k : Int) ∧ v = .int .u64 ((V f k : Nat) : Int)) (fun _ i => n - (intOf i).toNat)
  case atStart => exact ⟨0, Nat.zero_le _, rfl, rfl⟩
  case round =>
    obtain ⟨k, hk, rfl, rfl⟩ := hrel
    by_cases hlt : k < n
    · obtain ⟨b, off, rfl, hb, hcells⟩ := hA (by omega)
      have hc1 := hcells k hlt
      have hfk : f k < 4294967296 := HF.out k hlt
      clear hcells
      have h01 : k = 0 ∨ k = 1 := by omega
      rcases h01 with rfl | rfl
      · have e0 : V f 0 = 0 := rfl
        rw [e0]
        clear e0
        rw [Nat.add_zero] at hc1
        have hor : Hid (bits BinOp.or IntKind.u64 0 ((f 0 : Nat) : Int) = ((V f 1 : Nat) : Int)) := by
          show bits BinOp.or IntKind.u64 ((0 : Nat) : Int) ((f 0 : Nat) : Int) = _
          rw [u64_or_nat 0 (f 0) (by omega) (by omega)]
          simp [V_succ, V_zero]
        go_wp2_with fail
        exact ⟨⟨1, by omega, rfl, by rw [hor.out]⟩, by simp [intOf]; omega⟩
      · have hf0 : V f 1 < 4294967296 := by have := V_lt (f := f) (n := 1) fun i hi => HF.out i (by omega); simpa [W_eq] using this
        have hor : Hid (bits BinOp.or IntKind.u64 ((V f 1 : Nat) : Int) (((f 1 : Nat) : Int) * 4294967296) = ((V f 2 : Nat) : Int)) := by
          have e : ((f 1 : Nat) : Int) * 4294967296 = ((f 1 * 4294967296 : Nat) : Int) := by omega
          rw [e, u64_or_nat _ _ (by omega) (by omega), Nat.or_comm, nat_join 32 _ _ (by omega) (by omega), V_succ f 1, W_eq, Nat.pow_one]
          show ((f 1 * 4294967296 + V f 1 : Nat) : Int) = _
          omega
        go_wp2_with fail
        exact ⟨⟨2, by omega, rfl, by rw [hor.out]⟩, by simp [intOf]; omega⟩
    · have hkn : k = n := by omega
      subst hkn
      go_wp2_with fail
      go_ret
      exact ⟨rfl, rfl⟩

theorem div32_any (x y b : Int) (w : World) (h : 0 ≤ x) (h2 : x < 4294967296) (h3 : 0 ≤ y) (h4 : y < 4294967296) (h5 : 0 < b) (h6 : b < 4294967296) (hx : x < b) :
    Calls Tryz.prog 100 #[.int .u32 x, .int .u32 y, .int .u32 b] w fun e w' => e = .returned (.tuple #[.int .u32 ((x * 4294967296 + y) / b), .int .u32 ((x * 4294967296 + y) % b)]) ∧ Drn w w' := by
  have hb0 : (b != 0) = true := by rw [bne_iff_ne]; omega
  have hbx : decide (b ≤ x) = false := by simp; omega
  have hor : bits BinOp.or IntKind.u64 (x * 4294967296) y = x * 4294967296 + y := by
    rw [u64_or _ _ (by omega) (by omega) h3 (by omega), nat_join 32 _ _ (by omega) (by omega)]
    omega
  have hd0 : 0 ≤ (x * 4294967296 + y) / b := Int.ediv_nonneg (by omega) (by omega)
  have hd1 : (x * 4294967296 + y) / b < 4294967296 := Int.ediv_lt_of_lt_mul h5 (by
    have : (x + 1) * 4294967296 ≤ b * 4294967296 := Int.mul_le_mul_of_nonneg_right (by omega) (by omega)
    rw [Int.mul_comm 4294967296 b]
    omega)
  have hm0 : 0 ≤ (x * 4294967296 + y) % b := Int.emod_nonneg _ (by omega)
  have hm1 : (x * 4294967296 + y) % b < b := Int.emod_lt_of_pos _ h5
  go_enter Tryz.func100, Tryz.ntmps100
  go_wp2_with fail
  go_quiet (fail)
  go_wp2_with fail
  go_ret2
  exact ⟨rfl, (Drn.refl w).more _⟩
end Go.Proofs.YtjoanclnaeephaaGreat
