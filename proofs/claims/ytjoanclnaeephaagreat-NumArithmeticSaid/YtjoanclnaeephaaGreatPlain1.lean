/- Plain facts on numbers that are written as digits to the base 2^32. -/
namespace Go.Proofs.YtjoanclnaeephaaGreat

/-- The base of the digits. -/
def W : Nat := 4294967296

theorem W_pos : 0 < W := by unfold W; omega
theorem W_eq : W = 4294967296 := rfl

/-- The value of the first n digits. -/
def V (f : Nat → Nat) : Nat → Nat
  | 0 => 0
  | n + 1 => V f n + f n * W ^ n

theorem V_zero (f : Nat → Nat) : V f 0 = 0 := rfl
theorem V_succ (f : Nat → Nat) (n : Nat) : V f (n + 1) = V f n + f n * W ^ n := rfl

theorem pow_pos' (n : Nat) : 0 < W ^ n := Nat.pow_pos W_pos
theorem pow_succ' (n : Nat) : W ^ (n + 1) = W ^ n * W := Nat.pow_succ W n

theorem V_congr {f g : Nat → Nat} {n : Nat} (h : ∀ i, i < n → f i = g i) : V f n = V g n := by
  induction n with
  | zero => rfl
  | succ n ih => rw [V_succ, V_succ, ih (fun i hi => h i (by omega)), h n (by omega)]

theorem V_lt {f : Nat → Nat} {n : Nat} (h : ∀ i, i < n → f i < W) : V f n < W ^ n := by
  induction n with
  | zero => simp [V_zero]
  | succ n ih =>
    have h1 := ih (fun i hi => h i (by omega))
    have h2 := h n (by omega)
    rw [V_succ, pow_succ']
    have h3 : (f n + 1) * W ^ n ≤ W * W ^ n := Nat.mul_le_mul_right _ (by omega)
    rw [Nat.add_mul, Nat.one_mul] at h3
    rw [Nat.mul_comm (W ^ n) W]
    omega

theorem V_tail {f : Nat → Nat} {k n : Nat} (hk : k ≤ n) (h : ∀ i, k ≤ i → i < n → f i = 0) : V f n = V f k := by
  induction n with
  | zero => have : k = 0 := by omega
            rw [this]
  | succ n ih =>
    by_cases hkn : k = n + 1
    · rw [hkn]
    · rw [V_succ, h n (by omega) (by omega), ih (by omega) (fun i h1 h2 => h i h1 (by omega))]; simp

theorem V_split (f : Nat → Nat) (k m : Nat) : V f (k + m) = V f k + W ^ k * V (fun i => f (k + i)) m := by
  induction m with
  | zero => simp [V_zero]
  | succ m ih =>
    rw [← Nat.add_assoc, V_succ, V_succ, ih, Nat.mul_add, Nat.pow_add]
    rw [Nat.mul_comm (W ^ k) (f (k + m) * W ^ m), Nat.mul_assoc (f (k + m)), Nat.mul_comm (W ^ m) (W ^ k)]
    omega

theorem V_head (f : Nat → Nat) (m : Nat) : V f (m + 1) = f 0 + W * V (fun i => f (i + 1)) m := by
  have h := V_split f 1 m
  rw [Nat.add_comm 1 m] at h
  rw [h, V_succ, V_zero]
  have : (fun i => f (1 + i)) = (fun i => f (i + 1)) := by funext i; rw [Nat.add_comm]
  rw [this]; simp

theorem V_low {f : Nat → Nat} {n : Nat} (hn : 0 < n) (h : f (n - 1) ≠ 0) : W ^ (n - 1) ≤ V f n := by
  obtain ⟨m, rfl⟩ : ∃ m, n = m + 1 := ⟨n - 1, by omega⟩
  rw [V_succ]
  simp only [Nat.add_sub_cancel] at h ⊢
  have : 1 * W ^ m ≤ f m * W ^ m := Nat.mul_le_mul_right _ (by omega)
  omega

/-- No leading zero. -/
def Nrm (f : Nat → Nat) (n : Nat) : Prop := n = 0 ∨ f (n - 1) ≠ 0

theorem V_pos {f : Nat → Nat} {n : Nat} (hn : 0 < n) (h : Nrm f n) : W ^ (n - 1) ≤ V f n := by
  rcases h with h | h
  · omega
  · exact V_low hn h

theorem pow_le {a b : Nat} (h : a ≤ b) : W ^ a ≤ W ^ b := Nat.pow_le_pow_right W_pos h

theorem len_of_lt {f : Nat → Nat} {n k : Nat} (h : Nrm f n) (hv : V f n < W ^ k) : n ≤ k := by
  rcases Nat.eq_zero_or_pos n with h0 | h0
  · omega
  · have h1 := V_pos h0 h
    rcases Nat.lt_or_ge k n with hk | hk
    · have := pow_le (show k ≤ n - 1 by omega); omega
    · exact hk

theorem V_zero_iff {f : Nat → Nat} {n : Nat} (h : Nrm f n) : V f n = 0 ↔ n = 0 := by
  constructor
  · intro hv
    rcases Nat.eq_zero_or_pos n with h0 | h0
    · exact h0
    · have h1 := V_pos h0 h
      have := pow_pos' (n - 1)
      omega
  · rintro rfl; rfl

theorem V_lt_of_len {f g : Nat → Nat} {n m : Nat} (hf : ∀ i, i < n → f i < W) (hg : Nrm g m) (h : n < m) : V f n < V g m := by
  have h1 := V_lt hf
  have h2 := V_pos (by omega) hg
  have := pow_le (show n ≤ m - 1 by omega)
  omega

/-- The digits from i on agree. -/
theorem V_lt_of_digit {f g : Nat → Nat} {n i : Nat} (hi : i < n) (hf : ∀ j, j < n → f j < W) (h : ∀ j, i < j → j < n → f j = g j) (hlt : f i < g i) : V f n < V g n := by
  obtain ⟨m, rfl⟩ : ∃ m, n = (i + 1) + m := ⟨n - (i + 1), by omega⟩
  rw [V_split f (i + 1) m, V_split g (i + 1) m]
  have e : V (fun j => f (i + 1 + j)) m = V (fun j => g (i + 1 + j)) m := V_congr fun j hj => h _ (by omega) (by omega)
  rw [e, V_succ, V_succ]
  have h1 : V f i < W ^ i := V_lt fun j hj => hf j (by omega)
  have h2 : (f i + 1) * W ^ i ≤ g i * W ^ i := Nat.mul_le_mul_right _ (by omega)
  rw [Nat.add_mul, Nat.one_mul] at h2
  omega

/-- Two lists of digits without leading zeros and with one value are one. -/
theorem V_inj {f g : Nat → Nat} {n : Nat} (hf : ∀ i, i < n → f i < W) (hg : ∀ i, i < n → g i < W) (h : V f n = V g n) : ∀ i, i < n → f i = g i := by
  induction n with
  | zero => intro i hi; omega
  | succ n ih =>
    rw [V_succ, V_succ] at h
    have a := V_lt (f := f) (n := n) fun i hi => hf i (by omega)
    have b := V_lt (f := g) (n := n) fun i hi => hg i (by omega)
    have e : f n = g n := by
      rcases Nat.lt_trichotomy (f n) (g n) with c | c | c
      · have : (f n + 1) * W ^ n ≤ g n * W ^ n := Nat.mul_le_mul_right _ (by omega)
        rw [Nat.add_mul, Nat.one_mul] at this; omega
      · exact c
      · have : (g n + 1) * W ^ n ≤ f n * W ^ n := Nat.mul_le_mul_right _ (by omega)
        rw [Nat.add_mul, Nat.one_mul] at this; omega
    rw [e] at h
    intro i hi
    by_cases hn : i = n
    · rw [hn]; exact e
    · exact ih (fun i hi => hf i (by omega)) (fun i hi => hg i (by omega)) (by omega) i (by omega)

/-- One digit is turned. -/
def up (f : Nat → Nat) (i x : Nat) : Nat → Nat := fun j => if j = i then x else f j
theorem up_at (f : Nat → Nat) (i x : Nat) : up f i x i = x := by simp [up]
theorem up_far (f : Nat → Nat) {i j : Nat} (x : Nat) (h : j ≠ i) : up f i x j = f j := by simp [up, h]
theorem V_up_below (f : Nat → Nat) {i n : Nat} (x : Nat) (h : n ≤ i) : V (up f i x) n = V f n :=
  V_congr fun j hj => up_far f x (by omega)

/-- One step of a sum. -/
theorem add_step {F X Y i c s : Nat} (x y : Nat) (h : F + c * W ^ i = X + Y) (hs : s = x + y + c) :
    (F + (s % W) * W ^ i) + (s / W) * W ^ (i + 1) = (X + x * W ^ i) + (Y + y * W ^ i) := by
  have e : s % W + W * (s / W) = s := Nat.mod_add_div s W
  have : (s % W) * W ^ i + (s / W) * W ^ (i + 1) = s * W ^ i := by
    rw [pow_succ', Nat.mul_comm (W ^ i) W, ← Nat.mul_assoc, ← Nat.add_mul, Nat.mul_comm (s / W) W, e]
  have e2 : s * W ^ i = x * W ^ i + y * W ^ i + c * W ^ i := by rw [hs, Nat.add_mul, Nat.add_mul]
  omega

/-- One step of a difference: d - y - b is r with the new debt e. -/
theorem sub_step {F X Y i b r e : Nat} (x y : Nat) (h : F + Y = X + b * W ^ i) (hr : r + y + b = x + e * W) :
    (F + r * W ^ i) + (Y + y * W ^ i) = (X + x * W ^ i) + e * W ^ (i + 1) := by
  have h2 : (r + y + b) * W ^ i = (x + e * W) * W ^ i := by rw [hr]
  rw [Nat.add_mul, Nat.add_mul, Nat.add_mul, Nat.mul_assoc e W, Nat.mul_comm W (W ^ i), ← pow_succ'] at h2
  omega

/-- One step of adding a multiple. -/
theorem mac_step {F X Y i c s q : Nat} (a y : Nat) (h : F + c * W ^ i = X + q * Y) (hs : s = q * y + a + c) :
    (F + (s % W) * W ^ i) + (s / W) * W ^ (i + 1) = (X + a * W ^ i) + q * (Y + y * W ^ i) := by
  have e : s % W + W * (s / W) = s := Nat.mod_add_div s W
  have h1 : (s % W) * W ^ i + (s / W) * W ^ (i + 1) = s * W ^ i := by
    rw [pow_succ', Nat.mul_comm (W ^ i) W, ← Nat.mul_assoc, ← Nat.add_mul, Nat.mul_comm (s / W) W, e]
  have e2 : s * W ^ i = q * (y * W ^ i) + a * W ^ i + c * W ^ i := by rw [hs, Nat.add_mul, Nat.add_mul, Nat.mul_assoc]
  rw [Nat.mul_add]
  omega

end Go.Proofs.YtjoanclnaeephaaGreat
