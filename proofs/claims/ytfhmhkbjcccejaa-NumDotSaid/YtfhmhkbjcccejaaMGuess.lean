/- The guess of a digit of a quotient. -/
import Derived.Test.YtfhmhkbjcccejaaMShift

namespace Go.Proofs.Ytfhmhkbjcccejaa
open Go.RowKit

theorem or_shift (r u : Int) (h1 : 0 ≤ r) (h2 : r < 4294967296) (h3 : 0 ≤ u) (h4 : u < 4294967296) : bits BinOp.or IntKind.u64 (r * 4294967296) u = r * 4294967296 + u := by
  rw [u64_or _ _ (by omega) (by omega) (by omega) (by omega), nat_join 32 _ _ (by omega) (by omega)]
  omega
theorem prod_bounds (a b : Nat) (ha : a < 4294967296) (hb : b < 4294967296) : 0 ≤ (a : Int) * (b : Int) ∧ (a : Int) * (b : Int) ≤ 18446744065119617025 := by
  have h : a * b ≤ 4294967295 * 4294967295 := Nat.mul_le_mul (by omega) (by omega)
  have e : ((a * b : Nat) : Int) = (a : Int) * (b : Int) := Int.natCast_mul _ _
  omega
theorem prod_lt {R u G v : Nat} (h : (R : Int) * 4294967296 + (u : Int) < (G : Int) * (v : Int)) : R * W + u < G * v ∧ 0 < G := by
  have e : ((G * v : Nat) : Int) = (G : Int) * (v : Int) := Int.natCast_mul _ _
  have h2 : R * W + u < G * v := by rw [W_eq]; omega
  refine ⟨h2, ?_⟩
  rcases Nat.eq_zero_or_pos G with h0 | h0
  · subst h0; simp at h2
  · exact h0
theorem prod_ge {R u G v : Nat} (h : ¬ (R : Int) * 4294967296 + (u : Int) < (G : Int) * (v : Int)) : G * v ≤ R * W + u := by
  have e : ((G * v : Nat) : Int) = (G : Int) * (v : Int) := Int.natCast_mul _ _
  rw [W_eq]; omega

/-- x is the greatest digit whose product with the leading two digits is at most the leading three. -/
def IsGuess (T3 B2 x : Nat) : Prop := x < W ∧ x * B2 ≤ T3 ∧ ∀ y, y < W → y * B2 ≤ T3 → y ≤ x

/-- What is known of the guess G and the rest R. -/
def GRel (u2 u1 u0 v1 v0 : Nat) (g r : Value) : Prop :=
  ∃ G R : Nat, g = .int .u64 (G : Int) ∧ r = .int .u64 (R : Int) ∧ G * v1 + R = u2 * W + u1 ∧ R < 4294967296 ∧ G ≤ 4294967298 ∧ ∀ y, y < W → y * (v1 * W + v0) ≤ (u2 * W + u1) * W + u0 → y ≤ G

theorem mul_b2 (G v1 v0 : Nat) : G * (v1 * W + v0) = G * v1 * W + G * v0 := by rw [Nat.mul_add, Nat.mul_assoc]

theorem grel_start (u2 u1 u0 v1 v0 : Nat) (h2 : u2 ≤ v1) (hu1 : u1 < W) (hu0 : u0 < W) (hv31 : 2147483648 ≤ v1) {a b : Int} (ha : a = ((u2 : Int) * 4294967296 + (u1 : Int)) / (v1 : Int)) (hb : b = ((u2 : Int) * 4294967296 + (u1 : Int)) % (v1 : Int)) (hv1 : v1 < W) :
    GRel u2 u1 u0 v1 v0 (.int .u64 a) (.int .u64 b) := by
  have hv : 0 < v1 := by omega
  obtain ⟨t, ht⟩ : ∃ t, t = u2 * W + u1 := ⟨_, rfl⟩
  have e : (u2 : Int) * 4294967296 + (u1 : Int) = (t : Int) := by rw [ht, W_eq]; omega
  refine ⟨t / v1, t % v1, by rw [ha, e, Int.natCast_ediv], by rw [hb, e, Int.natCast_emod], ?_, ?_, ?_, ?_⟩
  · rw [← ht, Nat.mul_comm, Nat.div_add_mod]
  · have := Nat.mod_lt t hv; have : v1 < 4294967296 := hv1; omega
  · have h1 : t / v1 ≤ 4294967297 := by
      rw [← Nat.lt_succ_iff, Nat.div_lt_iff_lt_mul hv]
      rw [W_eq] at ht hu1
      have h3 : u2 * 4294967296 ≤ v1 * 4294967296 := Nat.mul_le_mul_right _ h2
      omega
    omega
  · intro y hy hyT
    rw [Nat.le_div_iff_mul_le hv]
    rw [mul_b2, ← ht] at hyT
    have h1 : y * v1 * W < (t + 1) * W := by rw [Nat.add_mul, Nat.one_mul]; omega
    have := Nat.lt_of_mul_lt_mul_right h1
    omega

theorem guess_stop {u2 u1 u0 v1 v0 G R : Nat} (he : G * v1 + R = u2 * W + u1) (hy : ∀ y, y < W → y * (v1 * W + v0) ≤ (u2 * W + u1) * W + u0 → y ≤ G) (hG : G < W) (ht : G * v0 ≤ R * W + u0) :
    IsGuess ((u2 * W + u1) * W + u0) (v1 * W + v0) G := by
  refine ⟨hG, ?_, hy⟩
  rw [mul_b2, ← he, Nat.add_mul]
  omega

theorem guess_break {u2 u1 u0 v1 v0 G R : Nat} (he : G * v1 + R = u2 * W + u1) (hy : ∀ y, y < W → y * (v1 * W + v0) ≤ (u2 * W + u1) * W + u0 → y ≤ G) (h2 : u2 ≤ v1) (hu1 : u1 < W) (hv0 : v0 < W) (hR : W ≤ R) :
    IsGuess ((u2 * W + u1) * W + u0) (v1 * W + v0) G := by
  have hG : G < W := by
    rcases Nat.lt_or_ge G W with g | g
    · exact g
    · have h1 : W * v1 ≤ G * v1 := Nat.mul_le_mul_right _ g
      have h3 : u2 * W ≤ v1 * W := Nat.mul_le_mul_right _ h2
      rw [Nat.mul_comm W v1] at h1
      omega
  refine guess_stop he hy hG ?_
  have h1 : G * v0 ≤ W * W := Nat.mul_le_mul (by omega) (by omega)
  have h3 : W * W ≤ R * W := Nat.mul_le_mul_right _ hR
  omega

theorem guess_next {u2 u1 u0 v1 v0 G R : Nat} (he : G * v1 + R = u2 * W + u1) (hy : ∀ y, y < W → y * (v1 * W + v0) ≤ (u2 * W + u1) * W + u0 → y ≤ G) (hG : 0 < G) (ht : W ≤ G ∨ R * W + u0 < G * v0) :
    (G - 1) * v1 + (R + v1) = u2 * W + u1 ∧ ∀ y, y < W → y * (v1 * W + v0) ≤ (u2 * W + u1) * W + u0 → y ≤ G - 1 := by
  obtain ⟨g, rfl⟩ : ∃ g, G = g + 1 := ⟨G - 1, by omega⟩
  constructor
  · rw [Nat.add_mul, Nat.one_mul] at he
    simp only [Nat.add_sub_cancel]
    omega
  · intro y h1 h2
    have h3 := hy y h1 h2
    have h4 : y ≠ g + 1 := by
      rintro rfl
      rcases ht with h | h
      · omega
      · rw [mul_b2, ← he, Nat.add_mul ((g + 1) * v1) R W] at h2
        omega
    omega

/-- The Go function's answer. -/
def RetG (w : World) (T3 B2 : Nat) (e : Ending) (w' : World) : Prop := ∃ x : Nat, e = .returned (.int .u32 (x : Int)) ∧ IsGuess T3 B2 x ∧ Drn w w'

set_option maxRecDepth 100000 in
set_option maxHeartbeats 2000000 in
theorem guess_any (a0 N b0 M n ca cb u2 u1 u0 v1 v0 : Nat) (w : World) (hn : n ≤ 1000000) (hn2 : 2 ≤ n)
    (hA2 : w.cell? ⟨a0, N + n, none⟩ = some (.int .u32 (u2 : Int))) (hA1 : w.cell? ⟨a0, N + (n - 1), none⟩ = some (.int .u32 (u1 : Int))) (hA0 : w.cell? ⟨a0, N + (n - 2), none⟩ = some (.int .u32 (u0 : Int)))
    (hB1 : w.cell? ⟨b0, M + (n - 1), none⟩ = some (.int .u32 (v1 : Int))) (hB0 : w.cell? ⟨b0, M + (n - 2), none⟩ = some (.int .u32 (v0 : Int)))
    (g2 : u2 < 4294967296) (g1 : u1 < 4294967296) (g0 : u0 < 4294967296) (f1 : v1 < 4294967296) (f0 : v0 < 4294967296) (hv : 2147483648 ≤ v1) (huv : u2 ≤ v1) :
    Calls Try.prog 122 #[.slice (some ⟨a0, N, none⟩) (n + 1) ca, .slice (some ⟨b0, M, none⟩) n cb] w (RetG w ((u2 * W + u1) * W + u0) (v1 * W + v0)) := by
  have q1 : 0 ≤ (n : Int) - 1 := by omega
  have q2 : 0 ≤ (n : Int) - 2 := by omega
  have q3 : 0 < (v1 : Int) := by omega
  have HV31 := Lib.hid hv
  clear hv
  have hor := or_shift (u2 : Int) (u1 : Int) (by omega) (by omega) (by omega) (by omega)
  go_enter Try.func122, Try.ntmps122
  go_wp2_with fail
  go_quiet (fail)
  go_wp2_with fail
  go_quiet (fail)
  go_wp2_with fail
  go_quiet (fail)
  go_wp2_with fail
  clear hor
  clear hA2 hA1 hB1 hB0
  go_loop [9, 10] (fun g r => GRel u2 u1 u0 v1 v0 g r) (fun g _ => (intOf g).toNat)
  case atStart => exact grel_start u2 u1 u0 v1 v0 huv g1 g0 HV31.out rfl rfl f1
  case round =>
    obtain ⟨G, R, rfl, rfl, he, hR, hG, hy⟩ := hrel
    have HE := Lib.hid he
    have HY := Lib.hid hy
    clear he hy
    have hnx : ∀ (x : Int), x = (G : Int) - 1 → 0 < G → (W ≤ G ∨ R * W + u0 < G * v0) → ¬ (4294967296 : Int) ≤ (R : Int) + (v1 : Int) → GRel u2 u1 u0 v1 v0 (.int .u64 x) (.int .u64 ((R : Int) + (v1 : Int))) := by
      intro x hx h0 h1 h2
      obtain ⟨n1, n2⟩ := guess_next HE.out HY.out h0 h1
      exact ⟨G - 1, R + v1, by rw [hx, show ((G - 1 : Nat) : Int) = (G : Int) - 1 from by omega], by rw [Int.natCast_add], n1, by omega, by omega, n2⟩
    have HNX := Lib.hid hnx
    clear hnx
    have hbr : 0 < G → (W ≤ G ∨ R * W + u0 < G * v0) → (4294967296 : Int) ≤ (R : Int) + (v1 : Int) → IsGuess ((u2 * W + u1) * W + u0) (v1 * W + v0) (G - 1) := by
      intro h0 h1 h2
      obtain ⟨n1, n2⟩ := guess_next HE.out HY.out h0 h1
      exact guess_break n1 n2 huv g1 f0 (by rw [W_eq]; omega)
    have HBR := Lib.hid hbr
    clear hbr
    by_cases c1 : W ≤ G
    · have c1' : (4294967296 : Int) ≤ (G : Int) := by rw [W_eq] at c1; omega
      have C1 := Lib.hid c1
      clear c1
      by_cases c2 : (4294967296 : Int) ≤ (R : Int) + (v1 : Int)
      · have HB := Lib.hid (HBR.out (by omega) (Or.inl C1.out) c2)
        have hsm : (G : Int) - 1 < 4294967296 := by have := HB.out.1; rw [W_eq] at this; omega
        go_wp2_with fail
        go_ret
        exact ⟨G - 1, by rw [show ((G - 1 : Nat) : Int) = (G : Int) - 1 from by omega]; rfl, HB.out, (Drn.refl w).more _⟩
      · have HN := Lib.hid (HNX.out _ rfl (by omega) (Or.inl C1.out) c2)
        go_wp2_with fail
        exact ⟨HN.out, by simp [intOf]; omega⟩
    · have c1' : G < 4294967296 := by rw [W_eq] at c1; omega
      have hb1 : decide ((4294967296 : Int) ≤ (G : Int)) = false := by simp; omega
      obtain ⟨hp0, hp1⟩ := prod_bounds G v0 (by omega) f0
      have hor2 := or_shift (R : Int) (u0 : Int) (by omega) (by omega) (by omega) (by omega)
      have C1 := Lib.hid c1
      clear c1
      by_cases c3 : (R : Int) * 4294967296 + (u0 : Int) < (G : Int) * (v0 : Int)
      · have C3 := Lib.hid (prod_lt c3)
        have hG0 : 0 < G := C3.out.2
        by_cases c2 : (4294967296 : Int) ≤ (R : Int) + (v1 : Int)
        · have HB := Lib.hid (HBR.out C3.out.2 (Or.inr C3.out.1) c2)
          have hb2 : decide ((R : Int) * 4294967296 + (u0 : Int) < (G : Int) * (v0 : Int)) = true := by simpa using c3
          clear c3
          go_wp2_with fail
          go_ret
          exact ⟨G - 1, by rw [show ((G - 1 : Nat) : Int) = (G : Int) - 1 from by omega]; rfl, HB.out, (Drn.refl w).more _⟩
        · have HN := Lib.hid (HNX.out _ rfl C3.out.2 (Or.inr C3.out.1) c2)
          have hb2 : decide ((R : Int) * 4294967296 + (u0 : Int) < (G : Int) * (v0 : Int)) = true := by simpa using c3
          have c2' : R + v1 < 4294967296 := by omega
          have hb3 : decide ((4294967296 : Int) ≤ (R : Int) + (v1 : Int)) = false := by simp; omega
          clear c3 c2
          go_wp2_with fail
          exact ⟨HN.out, by simp [intOf]; omega⟩
      · have HB : Hid (IsGuess ((u2 * W + u1) * W + u0) (v1 * W + v0) G) := guess_stop HE.out HY.out (by have := C1.out; omega) (prod_ge c3)
        have hb2 : decide ((R : Int) * 4294967296 + (u0 : Int) < (G : Int) * (v0 : Int)) = false := by simpa using c3
        clear c3
        go_wp2_with fail
        go_ret
        exact ⟨G, rfl, HB.out, (Drn.refl w).more _⟩

end Go.Proofs.Ytfhmhkbjcccejaa
