/- Plain facts on long division and on shifts of digits. -/
import Derived.Test.YtjoanclnaeephaaGreatPlain1
namespace Go.Proofs.YtjoanclnaeephaaGreat

/-- The guess is not below the quotient and at most 1 above it. U is the number of n + 1 digits, D the divisor of n digits. -/
theorem guess_low {U D T B2 P g : Nat} (hT : T = U / P) (hP : 0 < P) (hB : B2 = D / P) (h : T < g * B2) : U < g * D := by
  have h1 : U < (T + 1) * P := by rw [hT, Nat.mul_comm, Nat.mul_add, Nat.mul_one]; exact Nat.lt_mul_div_succ U hP
  have h2 : (T + 1) * P ≤ g * B2 * P := Nat.mul_le_mul_right _ h
  have h3 : B2 * P ≤ D := by rw [hB]; exact Nat.div_mul_le_self D P
  have h4 : g * (B2 * P) ≤ g * D := Nat.mul_le_mul_left _ h3
  rw [← Nat.mul_assoc] at h4
  omega

theorem guess_high {U D T B2 P g : Nat} (hT : T = U / P) (hP : 0 < P) (hB : B2 = D / P) (h : g * B2 ≤ T) (hg : g < W) (hD : W * P ≤ D) : g * D < U + D := by
  have h1 : T * P ≤ U := by rw [hT]; exact Nat.div_mul_le_self U P
  have h2 : g * B2 * P ≤ T * P := Nat.mul_le_mul_right _ h
  have h3 : D < (B2 + 1) * P := by rw [hB, Nat.mul_comm, Nat.mul_add, Nat.mul_one]; exact Nat.lt_mul_div_succ D hP
  rcases Nat.eq_zero_or_pos g with h0 | h0
  · subst h0; have := Nat.mul_pos W_pos hP; omega
  · have h4 : g * D ≤ g * ((B2 + 1) * P) := Nat.mul_le_mul_left _ (Nat.le_of_lt h3)
    have e : g * ((B2 + 1) * P) = g * B2 * P + g * P := by rw [Nat.add_mul, Nat.one_mul, Nat.mul_add, Nat.mul_assoc]
    have h5 : g * P < W * P := Nat.mul_lt_mul_of_pos_right hg hP
    omega

/-- The quotient that a guess leads to. -/
theorem quotient_of {U D g : Nat} (h1 : U < (g + 1) * D) (h2 : g * D ≤ U) : U / D = g ∧ U % D = U - g * D := by
  have hD : 0 < D := by
    rcases Nat.eq_zero_or_pos D with h | h
    · subst h; simp at h1
    · exact h
  have e : U / D = g := by
    refine Nat.div_eq_of_lt_le ?_ ?_
    · exact h2
    · exact h1
  refine ⟨e, ?_⟩
  have := Nat.mod_add_div U D
  rw [e, Nat.mul_comm] at this
  omega

/-- One step of subtracting a multiple. -/
theorem msub_step {F X Y i c b s r e : Nat} (a y q : Nat) (h : F + q * Y = X + (c + b) * W ^ i) (hs : s = q * y + c) (hr : r + s % W + b = a + e * W) :
    (F + r * W ^ i) + q * (Y + y * W ^ i) = (X + a * W ^ i) + (s / W + e) * W ^ (i + 1) := by
  have e1 : s % W + W * (s / W) = s := Nat.mod_add_div s W
  have h1 : r + q * y + (c + b) = a + (s / W + e) * W := by
    rw [Nat.add_mul, Nat.mul_comm (s / W) W]; omega
  have h2 : (r + q * y + (c + b)) * W ^ i = (a + (s / W + e) * W) * W ^ i := by rw [h1]
  rw [Nat.add_mul, Nat.add_mul, Nat.add_mul a, Nat.mul_assoc (s / W + e), Nat.mul_comm W (W ^ i), ← pow_succ'] at h2
  rw [Nat.mul_add, ← Nat.mul_assoc]
  omega

/-- The digits of a number. -/
theorem V_digits (Y n : Nat) : V (fun i => Y / W ^ i % W) n = Y % W ^ n := by
  induction n with
  | zero => simp [V_zero, Nat.mod_one]
  | succ n ih => rw [V_succ, ih, pow_succ', Nat.mod_mul, Nat.mul_comm (W ^ n)]

theorem V_digit {f : Nat → Nat} {n i : Nat} (hf : ∀ j, j < n → f j < W) (hi : i < n) : V f n / W ^ i % W = f i := by
  obtain ⟨m, rfl⟩ : ∃ m, n = i + (m + 1) := ⟨n - i - 1, by omega⟩
  rw [V_split, V_head]
  have h1 : V f i < W ^ i := V_lt fun j hj => hf j (by omega)
  rw [Nat.add_mul_div_left _ _ (pow_pos' i), Nat.div_eq_of_lt h1, Nat.zero_add, Nat.add_mul_mod_self_left]
  simpa using Nat.mod_eq_of_lt (hf i (by omega))

theorem V_drop {f : Nat → Nat} {n i : Nat} (hf : ∀ j, j < n → f j < W) (hi : i ≤ n) : V (fun j => f (i + j)) (n - i) = V f n / W ^ i := by
  obtain ⟨m, rfl⟩ : ∃ m, n = i + m := ⟨n - i, by omega⟩
  rw [V_split]
  have h1 : V f i < W ^ i := V_lt fun j hj => hf j (by omega)
  rw [Nat.add_mul_div_left _ _ (pow_pos' i), Nat.div_eq_of_lt h1, Nat.zero_add, Nat.add_sub_cancel_left]

theorem W_two (n : Nat) (h : n ≤ 32) : W = 2 ^ n * 2 ^ (32 - n) := by
  rw [← Nat.pow_add, show n + (32 - n) = 32 from by omega]; rfl

/-- One step of a shift to the left: c is what the digit before left over. -/
theorem shl_step {F X i c d n : Nat} (h : F + c * W ^ i = X * 2 ^ n) :
    (F + ((d * 2 ^ n) % W + c) * W ^ i) + (d * 2 ^ n / W) * W ^ (i + 1) = (X + d * W ^ i) * 2 ^ n := by
  have e : (d * 2 ^ n) % W + W * (d * 2 ^ n / W) = d * 2 ^ n := Nat.mod_add_div _ W
  have h1 : (d * 2 ^ n) % W * W ^ i + (d * 2 ^ n / W) * W ^ (i + 1) = d * 2 ^ n * W ^ i := by
    rw [pow_succ', Nat.mul_comm (W ^ i) W, ← Nat.mul_assoc, ← Nat.add_mul, Nat.mul_comm (d * 2 ^ n / W) W, e]
  rw [Nat.add_mul X, Nat.mul_assoc d, Nat.mul_comm (W ^ i) (2 ^ n), ← Nat.mul_assoc, Nat.add_mul]
  omega

/-- A digit of a number that is shifted to the right. -/
theorem shr_digit (X n i : Nat) (hn : n < 32) : (X / W ^ i % W + W * (X / W ^ (i + 1) % W)) / 2 ^ n % W = X / 2 ^ n / W ^ i % W := by
  have e1 : X / W ^ i % W + W * (X / W ^ (i + 1) % W) = X / W ^ i % (W * W) := by
    rw [Nat.mod_mul, Nat.div_div_eq_div_mul, pow_succ']
  have e2 : X / 2 ^ n / W ^ i = X / W ^ i / 2 ^ n := by rw [Nat.div_div_eq_div_mul, Nat.div_div_eq_div_mul, Nat.mul_comm]
  rw [e1, e2]
  generalize X / W ^ i = Y
  have hw := W_two n (by omega)
  have e3 : W * W = 2 ^ n * (2 ^ (32 - n) * W) := by rw [← Nat.mul_assoc, ← hw]
  rw [e3, Nat.mod_mul_right_div_self, Nat.mod_mod_of_dvd _ ⟨2 ^ (32 - n), Nat.mul_comm _ _⟩]

end Go.Proofs.YtjoanclnaeephaaGreat
