/- The guess of a digit of a quotient. Subtracting a multiple of digits in place. -/
import Derived.Test.YtfhmhkbjcccejaaGreatDoorZ02

namespace Go.Proofs.YtfhmhkbjcccejaaGreatDoor
open Go.RowKit

theorem or_shift (r u : Int) (h1 : 0 ≤ r) (h2 : r < 4294967296) (h3 : 0 ≤ u) (h4 : u < 4294967296) : bits BinOp.or IntKind.u64 (r * 4294967296) u = r * 4294967296 + u := by
  rw [u64_or _ _ (by omega) (by omega) (by omega) (by omega), nat_join 32 _ _ (by omega) (by omega)]
  omega
theorem prod_bounds (a b : Nat) (ha : a < 4294967296) (hb : b < 4294967296) : 0 ≤ (a : Int) * (b : Int) ∧ (a : Int) * (b : Int) ≤ 18446744065119617025 := by
  have h : a * b ≤ 4294967295 * 4294967295 := Nat.mul_le_mul (by omega) (by omega)
  have e : ((a * b : Nat) : Int) = (a : Int) * (b : Int) := Int.natCast_mul _ _
  omega
theorem prod_lt {R u G v : Nat} (h : (R : Int) * 4294967296 + (u : Int) < (G : Int) * (v : Int)) : R * W + u < G * v ∧ 0 < G := by
  have e : ((G * v : Nat) : Int) = (G : Int) * (v : Int) := Int.natCast_mul _ _
  have h2 : R * W + u < G * v := by rw [W_eq]; omega
  refine ⟨h2, ?_⟩
  rcases Nat.eq_zero_or_pos G with h0 | h0
  · subst h0; simp at h2
  · exact h0
theorem prod_ge {R u G v : Nat} (h : ¬ (R : Int) * 4294967296 + (u : Int) < (G : Int) * (v : Int)) : G * v ≤ R * W + u := by
  have e : ((G * v : Nat) : Int) = (G : Int) * (v : Int) := Int.natCast_mul _ _
  rw [W_eq]; omega

/-- x is the greatest digit whose product with the leading two digits is at most the leading three. -/
def IsGuess (T3 B2 x : Nat) : Prop := x < W ∧ x * B2 ≤ T3 ∧ ∀ y, y < W → y * B2 ≤ T3 → y ≤ x

/-- What is known of the guess G and the rest R. -/
def GRel (u2 u1 u0 v1 v0 : Nat) (g r : Value) : Prop :=
  ∃ G R : Nat, g = .int .u64 (G : Int) ∧ r = .int .u64 (R : Int) ∧ G * v1 + R = u2 * W + u1 ∧ R < 4294967296 ∧ G ≤ 4294967298 ∧ ∀ y, y < W → y * (v1 * W + v0) ≤ (u2 * W + u1) * W + u0 → y ≤ G

theorem mul_b2 (G v1 v0 : Nat) : G * (v1 * W + v0) = G * v1 * W + G * v0 := by rw [Nat.mul_add, Nat.mul_assoc]

theorem grel_start (u2 u1 u0 v1 v0 : Nat) (h2 : u2 ≤ v1) (hu1 : u1 < W) (hu0 : u0 < W) (hv31 : 2147483648 ≤ v1) {a b : Int} (ha : a = ((u2 : Int) * 4294967296 + (u1 : Int)) / (v1 : Int)) (hb : b = ((u2 : Int) * 4294967296 + (u1 : Int)) % (v1 : Int)) (hv1 : v1 < W) :
    GRel u2 u1 u0 v1 v0 (.int .u64 a) (.int .u64 b) := by
  have hv : 0 < v1 := by omega
  obtain ⟨t, ht⟩ : ∃ t, t = u2 * W + u1 := ⟨_, rfl⟩
  have e : (u2 : Int) * 4294967296 + (u1 : Int) = (t : Int) := by rw [ht, W_eq]; omega
  refine ⟨t / v1, t % v1, by rw [ha, e, Int.natCast_ediv], by rw [hb, e, Int.natCast_emod], ?_, ?_, ?_, ?_⟩
  · rw [← ht, Nat.mul_comm, Nat.div_add_mod]
  · have := Nat.mod_lt t hv; have : v1 < 4294967296 := hv1; omega
  · have h1 : t / v1 ≤ 4294967297 := by
      rw [← Nat.lt_succ_iff, Nat.div_lt_iff_lt_mul hv]
      rw [W_eq] at ht hu1
      have h3 : u2 * 4294967296 ≤ v1 * 4294967296 := Nat.mul_le_mul_right _ h2
      omega
    omega
  · intro y hy hyT
    rw [Nat.le_div_iff_mul_le hv]
    rw [mul_b2, ← ht] at hyT
    have h1 : y * v1 * W < (t + 1) * W := by rw [Nat.add_mul, Nat.one_mul]; omega
    have := Nat.lt_of_mul_lt_mul_right h1
    omega

theorem guess_stop {u2 u1 u0 v1 v0 G R : Nat} (he : G * v1 + R = u2 * W + u1) (hy : ∀ y, y < W → y * (v1 * W + v0) ≤ (u2 * W + u1) * W + u0 → y ≤ G) (hG : G < W) (ht : G * v0 ≤ R * W + u0) :
    IsGuess ((u2 * W + u1) * W + u0) (v1 * W + v0) G := by
  refine ⟨hG, ?_, hy⟩
  rw [mul_b2, ← he, Nat.add_mul]
  omega

theorem guess_break {u2 u1 u0 v1 v0 G R : Nat} (he : G * v1 + R = u2 * W + u1) (hy : ∀ y, y < W → y * (v1 * W + v0) ≤ (u2 * W + u1) * W + u0 → y ≤ G) (h2 : u2 ≤ v1) (hu1 : u1 < W) (hv0 : v0 < W) (hR : W ≤ R) :
    IsGuess ((u2 * W + u1) * W + u0) (v1 * W + v0) G := by
  have hG : G < W := by
    rcases Nat.lt_or_ge G W with g | g
    · exact g
    · have h1 : W * v1 ≤ G * v1 := Nat.mul_le_mul_right _ g
      have h3 : u2 * W ≤ v1 * W := Nat.mul_le_mul_right _ h2
      rw [Nat.mul_comm W v1] at h1
      omega
  refine guess_stop he hy hG ?_
  have h1 : G * v0 ≤ W * W := Nat.mul_le_mul (by omega) (by omega)
  have h3 : W * W ≤ R * W := Nat.mul_le_mul_right _ hR
  omega

theorem guess_next {u2 u1 u0 v1 v0 G R : Nat} (he : G * v1 + R = u2 * W + u1) (hy : ∀ y, y < W → y * (v1 * W + v0) ≤ (u2 * W + u1) * W + u0 → y ≤ G) (hG : 0 < G) (ht : W ≤ G ∨ R * W + u0 < G * v0) :
    (G - 1) * v1 + (R + v1) = u2 * W + u1 ∧ ∀ y, y < W → y * (v1 * W + v0) ≤ (u2 * W + u1) * W + u0 → y ≤ G - 1 := by
  obtain ⟨g, rfl⟩ : ∃ g, G = g + 1 := ⟨G - 1, by omega⟩
  constructor
  · rw [Nat.add_mul, Nat.one_mul] at he
    simp only [Nat.add_sub_cancel]
    omega
  · intro y h1 h2
    have h3 := hy y h1 h2
    have h4 : y ≠ g + 1 := by
      rintro rfl
      rcases ht with h | h
      · omega
      · rw [mul_b2, ← he, Nat.add_mul ((g + 1) * v1) R W] at h2
        omega
    omega

/-- The Go function's answer. -/
def RetG (w : World) (T3 B2 : Nat) (e : Ending) (w' : World) : Prop := ∃ x : Nat, e = .returned (.int .u32 (x : Int)) ∧ IsGuess T3 B2 x ∧ Drn w w'

set_option maxRecDepth 100000 in
set_option maxHeartbeats 2000000 in
theorem guess_any (a0 N b0 M n ca cb u2 u1 u0 v1 v0 : Nat) (w : World) (hn : n ≤ 1000000) (hn2 : 2 ≤ n)
    (hA2 : w.cell? ⟨a0, N + n, none⟩ = some (.int .u32 (u2 : Int))) (hA1 : w.cell? ⟨a0, N + (n - 1), none⟩ = some (.int .u32 (u1 : Int))) (hA0 : w.cell? ⟨a0, N + (n - 2), none⟩ = some (.int .u32 (u0 : Int)))
    (hB1 : w.cell? ⟨b0, M + (n - 1), none⟩ = some (.int .u32 (v1 : Int))) (hB0 : w.cell? ⟨b0, M + (n - 2), none⟩ = some (.int .u32 (v0 : Int)))
    (g2 : u2 < 4294967296) (g1 : u1 < 4294967296) (g0 : u0 < 4294967296) (f1 : v1 < 4294967296) (f0 : v0 < 4294967296) (hv : 2147483648 ≤ v1) (huv : u2 ≤ v1) :
    Calls Tryz.prog 135 #[.slice (some ⟨a0, N, none⟩) (n + 1) ca, .slice (some ⟨b0, M, none⟩) n cb] w (RetG w ((u2 * W + u1) * W + u0) (v1 * W + v0)) := by
  have q1 : 0 ≤ (n : Int) - 1 := by omega
  have q2 : 0 ≤ (n : Int) - 2 := by omega
  have q3 : 0 < (v1 : Int) := by omega
  have HV31 := Lib.hid hv
  clear hv
  have hor := or_shift (u2 : Int) (u1 : Int) (by omega) (by omega) (by omega) (by omega)
  go_enter Tryz.func135, Tryz.ntmps135
  go_wp2_with fail
  go_quiet (fail)
  go_wp2_with fail
  go_quiet (fail)
  go_wp2_with fail
  go_quiet (fail)
  go_wp2_with fail
  clear hor
  clear hA2 hA1 hB1 hB0
  go_loop [9, 10] (fun g r => GRel u2 u1 u0 v1 v0 g r) (fun g _ => (intOf g).toNat)
  case atStart => exact grel_start u2 u1 u0 v1 v0 huv g1 g0 HV31.out rfl rfl f1
  case round =>
    obtain ⟨G, R, rfl, rfl, he, hR, hG, hy⟩ := hrel
    have HE := Lib.hid he
    have HY := Lib.hid hy
    clear he hy
    have hnx : ∀ (x : Int), x = (G : Int) - 1 → 0 < G → (W ≤ G ∨ R * W + u0 < G * v0) → ¬ (4294967296 : Int) ≤ (R : Int) + (v1 : Int) → GRel u2 u1 u0 v1 v0 (.int .u64 x) (.int .u64 ((R : Int) + (v1 : Int))) := by
      intro x hx h0 h1 h2
      obtain ⟨n1, n2⟩ := guess_next HE.out HY.out h0 h1
      exact ⟨G - 1, R + v1, by rw [hx, show ((G - 1 : Nat) : Int) = (G : Int) - 1 from by omega], by rw [Int.natCast_add], n1, by omega, by omega, n2⟩
    have HNX := Lib.hid hnx
    clear hnx
    have hbr : 0 < G → (W ≤ G ∨ R * W + u0 < G * v0) → (4294967296 : Int) ≤ (R : Int) + (v1 : Int) → IsGuess ((u2 * W + u1) * W + u0) (v1 * W + v0) (G - 1) := by
      intro h0 h1 h2
      obtain ⟨n1, n2⟩ := guess_next HE.out HY.out h0 h1
      exact guess_break n1 n2 huv g1 f0 (by rw [W_eq]; omega)
    have HBR := Lib.hid hbr
    clear hbr
    by_cases c1 : W ≤ G
    · have c1' : (4294967296 : Int) ≤ (G : Int) := by rw [W_eq] at c1; omega
      have C1 := Lib.hid c1
      clear c1
      by_cases c2 : (4294967296 : Int) ≤ (R : Int) + (v1 : Int)
      · have HB := Lib.hid (HBR.out (by omega) (Or.inl C1.out) c2)
        have hsm : (G : Int) - 1 < 4294967296 := by have := HB.out.1; rw [W_eq] at this; omega
        go_wp2_with fail
        go_ret
        exact ⟨G - 1, by rw [show ((G - 1 : Nat) : Int) = (G : Int) - 1 from by omega]; rfl, HB.out, (Drn.refl w).more _⟩
      · have HN := Lib.hid (HNX.out _ rfl (by omega) (Or.inl C1.out) c2)
        go_wp2_with fail
        exact ⟨HN.out, by simp [intOf]; omega⟩
    · have c1' : G < 4294967296 := by rw [W_eq] at c1; omega
      have hb1 : decide ((4294967296 : Int) ≤ (G : Int)) = false := by simp; omega
      obtain ⟨hp0, hp1⟩ := prod_bounds G v0 (by omega) f0
      have hor2 := or_shift (R : Int) (u0 : Int) (by omega) (by omega) (by omega) (by omega)
      have C1 := Lib.hid c1
      clear c1
      by_cases c3 : (R : Int) * 4294967296 + (u0 : Int) < (G : Int) * (v0 : Int)
      · have C3 := Lib.hid (prod_lt c3)
        have hG0 : 0 < G := C3.out.2
        by_cases c2 : (4294967296 : Int) ≤ (R : Int) + (v1 : Int)
        · have HB := Lib.hid (HBR.out C3.out.2 (Or.inr C3.out.1) c2)
          have hb2 : decide ((R : Int) * 4294967296 + (u0 : Int) < (G : Int) * (v0 : Int)) = true := by simpa using c3
          clear c3
          go_wp2_with fail
          go_ret
          exact ⟨G - 1, by rw [show ((G - 1 : Nat) : Int) = (G : Int) - 1 from by omega]; rfl, HB.out, (Drn.refl w).more _⟩
        · have HN := Lib.hid (HNX.out _ rfl C3.out.2 (Or.inr C3.out.1) c2)
          have hb2 : decide ((R : Int) * 4294967296 + (u0 : Int) < (G : Int) * (v0 : Int)) = true := by simpa using c3
          have c2' : R + v1 < 4294967296 := by omega
          have hb3 : decide ((4294967296 : Int) ≤ (R : Int) + (v1 : Int)) = false := by simp; omega
          clear c3 c2
          go_wp2_with fail
          exact ⟨HN.out, by simp [intOf]; omega⟩
      · have HB : Hid (IsGuess ((u2 * W + u1) * W + u0) (v1 * W + v0) G) := guess_stop HE.out HY.out (by have := C1.out; omega) (prod_ge c3)
        have hb2 : decide ((R : Int) * 4294967296 + (u0 : Int) < (G : Int) * (v0 : Int)) = false := by simpa using c3
        clear c3
        go_wp2_with fail
        go_ret
        exact ⟨G, rfl, HB.out, (Drn.refl w).more _⟩

end Go.Proofs.YtfhmhkbjcccejaaGreatDoor

namespace Go.Proofs.YtfhmhkbjcccejaaGreatDoor
open Go.RowKit

/-- What has been subtracted from the row g0 from o on, after k digits. -/
def SRel (w : World) (g0 N o m x : Nat) (g h0 : Nat → Nat) (carry borrow i : Value) (wr : World) : Prop :=
  ∃ (k c d : Nat) (h : Nat → Nat), k ≤ m ∧ i = .int .i64 (k : Int) ∧ carry = .int .u64 (c : Int) ∧ c < 4294967296 ∧ borrow = .int .u32 (d : Int) ∧ d ≤ 1 ∧ Row wr g0 N h ∧ (∀ j, j < o ∨ o + k ≤ j → h j = h0 j) ∧ (∀ j, j < k → sh h o j < W) ∧
    V (sh h o) k + x * V g k = V (sh h0 o) k + (c + d) * W ^ k ∧ w.grownBy wr (some g0)

theorem srel_start (w : World) {g0 N o m x : Nat} {g h0 : Nat → Nat} (hrow : Row w g0 N h0) : SRel w g0 N o m x g h0 (.int .u64 0) (.int .u32 0) (.int .i64 0) w :=
  ⟨0, 0, 0, h0, Nat.zero_le _, rfl, rfl, by omega, rfl, by omega, hrow, fun _ _ => rfl, fun j hj => by omega, by simp [V_zero], World.grownBy.refl w _⟩

theorem grown_drew {w wr : World} {row : Option Nat} (h : w.grownBy wr row) : w.grownBy wr.drew row := ⟨h.os, h.tape, h.output, h.size, h.block⟩

/-- A difference of three digits. -/
theorem dig_sub (a y d : Nat) (ha : a < 4294967296) (hy : y < 4294967296) (hd : d ≤ 1) : ∃ r e : Nat, ((a : Int) - (y : Int) - (d : Int)) % 4294967296 = (r : Int) ∧ bor (a : Int) ((y : Int) + (d : Int)) = (e : Int) ∧ r < W ∧ e ≤ 1 ∧ r + y + d = a + e * W := by
  obtain ⟨r, hr⟩ := Int.eq_ofNat_of_zero_le (show 0 ≤ ((a : Int) - (y : Int) - (d : Int)) % 4294967296 by omega)
  obtain ⟨e, he⟩ := Int.eq_ofNat_of_zero_le (bor_01 (a : Int) ((y : Int) + (d : Int))).1
  have he1 : e ≤ 1 := by have := (bor_01 (a : Int) ((y : Int) + (d : Int))).2; omega
  refine ⟨r, e, hr, he, by rw [W_eq]; omega, he1, ?_⟩
  unfold bor at he
  rw [W_eq]
  split at he <;> omega

theorem srel_step {w wr w2 : World} {g0 N o m x k c d : Nat} {g h0 h : Nat → Nat} (hk : k < m) (hc : c < 4294967296) (hd : d ≤ 1) (hx : x < 4294967296) (hg : g k < 4294967296) (hh0 : h0 (o + k) < 4294967296) (hrow : Row wr g0 N h)
    (hsame : ∀ j, j < o ∨ o + k ≤ j → h j = h0 j) (hh : ∀ j, j < k → sh h o j < W) (hv : V (sh h o) k + x * V g k = V (sh h0 o) k + (c + d) * W ^ k) (hgr : w.grownBy wr (some g0)) {a s : Int} {i b1 : Value}
    (hs : s = (x : Int) * ((g k : Nat) : Int) + (c : Int)) (ha : a = (k : Int) + 1) (hi : i = .int .i64 a) (hb : b1 = .int .u32 (bor ((h (o + k) : Nat) : Int) (s % 4294967296 + (d : Int))))
    (hw : w2 = wr.setCell ⟨g0, o + k, none⟩ (.int .u32 ((((h (o + k) : Nat) : Int) - s % 4294967296 - (d : Int)) % 4294967296))) :
    SRel w g0 N o m x g h0 (.int .u64 (s / 4294967296)) b1 i w2 := by
  subst hs ha hi hb hw
  have e0 : h (o + k) = h0 (o + k) := hsame _ (Or.inr (Nat.le_refl _))
  have hp : x * g k ≤ 4294967295 * 4294967295 := Nat.mul_le_mul (by omega) (by omega)
  obtain ⟨t, ht⟩ : ∃ t, t = x * g k + c := ⟨_, rfl⟩
  have e1 : (x : Int) * ((g k : Nat) : Int) + (c : Int) = (t : Int) := by rw [ht, Int.natCast_add, Int.natCast_mul]
  rw [e1]
  have e2 : (t : Int) % 4294967296 = ((t % W : Nat) : Int) := by rw [W_eq]; omega
  have e3 : (t : Int) / 4294967296 = ((t / W : Nat) : Int) := by rw [W_eq]; omega
  rw [e2, e3]
  obtain ⟨r, e, hr, he, hrW, he1, hre⟩ := dig_sub (h (o + k)) (t % W) d (by omega) (Nat.mod_lt _ W_pos) hd
  rw [hr, he]
  have hup : V (sh (up h (o + k) r) o) k = V (sh h o) k := V_congr fun j hj => by unfold sh; exact up_far h _ (by omega)
  have hat : sh (up h (o + k) r) o k = r := by unfold sh; exact up_at _ _ _
  refine ⟨k + 1, t / W, e, up h (o + k) r, by omega, by rw [show ((k + 1 : Nat) : Int) = (k : Int) + 1 from by omega], rfl, ?_, rfl, he1, hrow.set _ _, ?_, ?_, ?_, grown_set hgr _ _⟩
  · rw [W_eq]; omega
  · intro j hj
    rw [up_far h _ (by omega)]
    exact hsame j (by omega)
  · intro j hj
    by_cases e : j = k
    · rw [e, hat]; exact hrW
    · have : sh (up h (o + k) r) o j = sh h o j := by unfold sh; exact up_far h _ (by omega)
      rw [this]; exact hh j (by omega)
  · rw [V_succ, V_succ, V_succ, hat, hup]
    have : sh h0 o k = h (o + k) := e0.symm
    rw [this]
    exact msub_step _ _ _ hv ht hre

/-- What subtractMultiple leaves. -/
def RetS (w : World) (g0 N o m x : Nat) (g h0 : Nat → Nat) (e : Ending) (w' : World) : Prop :=
  ∃ (d : Nat) (h : Nat → Nat), e = .returned (.bool ((d : Int) != 0)) ∧ d ≤ 1 ∧ Row w' g0 N h ∧ (∀ j, j < o ∨ o + (m + 1) ≤ j → h j = h0 j) ∧ (∀ j, j < m + 1 → sh h o j < W) ∧
    V (sh h o) (m + 1) + x * V g m = V (sh h0 o) (m + 1) + d * W ^ (m + 1) ∧ w.grownBy w' (some g0)

theorem rets_end {w wr w2 : World} {g0 N o m x c d : Nat} {g h0 h : Nat → Nat} (hc : c < 4294967296) (hd : d ≤ 1) (hh0 : h0 (o + m) < 4294967296) (hrow : Row wr g0 N h)
    (hsame : ∀ j, j < o ∨ o + m ≤ j → h j = h0 j) (hh : ∀ j, j < m → sh h o j < W) (hv : V (sh h o) m + x * V g m = V (sh h0 o) m + (c + d) * W ^ m) (hgr : w.grownBy wr (some g0)) {b1 : Value}
    (hb : b1 = .bool (bor ((h (o + m) : Nat) : Int) ((c : Int) + (d : Int)) != 0))
    (hw : w2 = wr.setCell ⟨g0, o + m, none⟩ (.int .u32 ((((h (o + m) : Nat) : Int) - (c : Int) - (d : Int)) % 4294967296))) :
    RetS w g0 N o m x g h0 (.returned b1) w2 := by
  subst hb hw
  have e0 : h (o + m) = h0 (o + m) := hsame _ (Or.inr (Nat.le_refl _))
  obtain ⟨r, e, hr, he, hrW, he1, hre⟩ := dig_sub (h (o + m)) c d (by omega) hc hd
  rw [hr, he]
  have hup : V (sh (up h (o + m) r) o) m = V (sh h o) m := V_congr fun j hj => by unfold sh; exact up_far h _ (by omega)
  have hat : sh (up h (o + m) r) o m = r := by unfold sh; exact up_at _ _ _
  refine ⟨e, up h (o + m) r, rfl, he1, hrow.set _ _, ?_, ?_, ?_, grown_set hgr _ _⟩
  · intro j hj
    rw [up_far h _ (by omega)]
    exact hsame j (by omega)
  · intro j hj
    by_cases e : j = m
    · rw [e, hat]; exact hrW
    · have : sh (up h (o + m) r) o j = sh h o j := by unfold sh; exact up_far h _ (by omega)
      rw [this]; exact hh j (by omega)
  · rw [V_succ, V_succ, hat, hup]
    have : sh h0 o m = h (o + m) := e0.symm
    rw [this, pow_succ']
    have h2 : (r + c + d) * W ^ m = (h (o + m) + e * W) * W ^ m := by rw [hre]
    rw [Nat.add_mul, Nat.add_mul, Nat.add_mul (h (o + m)), Nat.mul_assoc e W, Nat.mul_comm W (W ^ m)] at h2
    rw [Nat.add_mul] at hv
    omega

set_option maxRecDepth 100000 in
set_option maxHeartbeats 2000000 in
theorem subM_any (g0 N o ca : Nat) (b off m cb : Nat) (g h0 : Nat → Nat) (x : Nat) (w : World) (_hN : N ≤ 4000000) (hm : m ≤ 1000000) (hoN : o + (m + 1) ≤ N) (hrow : Row w g0 N h0)
    (hne : b ≠ g0) (hb : b < w.heap.size) (hcs : ∀ i, i < m → w.cell? ⟨b, off + i, none⟩ = some (.int .u32 ((g i : Nat) : Int))) (hg : ∀ i, i < m → g i < W) (hh : ∀ i, i < N → h0 i < W) (hx : x < 4294967296) :
    Calls Tryz.prog 136 #[.slice (some ⟨g0, o, none⟩) (m + 1) ca, .slice (some ⟨b, off, none⟩) m cb, .int .u32 (x : Int)] w (RetS w g0 N o m x g h0) := by
  have HG := Lib.hid hg
  have HH0 := Lib.hid hh
  have HCS := Lib.hid hcs
  have HNE := Lib.hid hne
  clear hg hh hcs hne
  go_enter Tryz.func136, Tryz.ntmps136
  go_wp2_with fail
  go_loopw [7, 8, 15] (fun c d i wr => SRel w g0 N o m x g h0 c d i wr) (fun _ _ i _ => m - (intOf i).toNat)
  case atStart => exact srel_start w hrow
  case round =>
    obtain ⟨k, c, d, h, hk, rfl, rfl, hc, rfl, hd, hrow1, hsame, hh, hv, hgr⟩ := hrel
    have HS := Lib.hid hsame
    have HH := Lib.hid hh
    have HV := Lib.hid hv
    clear hh hv hsame
    by_cases hlt : k < m
    · have hc1 : wr.cell? ⟨b, off + k, none⟩ = some (.int .u32 ((g k : Nat) : Int)) := (World.cell?_of_block (w := w) (a := ⟨b, off + k, none⟩) (hgr.block b hb (fun e => HNE.out (by injection e)))).trans (HCS.out k hlt)
      have b1 : g k < 4294967296 := HG.out k hlt
      have b2 : h0 (o + k) < 4294967296 := HH0.out (o + k) (by omega)
      have b3 : h (o + k) < 4294967296 := by rw [HS.out (o + k) (Or.inr (Nat.le_refl _))]; exact b2
      have hcell := hrow1.cell (show o + k < N by omega)
      have hfr := hrow1.frozen (o + k)
      obtain ⟨hp0, hp1⟩ := prod_bounds x (g k) hx b1
      go_wp2_with ((with_reducible refine (sub32_any _ _ _ _ (by omega) (by omega) (by omega) (by omega) (by omega) (by omega)).mono ?_); rintro e w' ⟨rfl, rfl⟩)
      exact ⟨srel_step hlt hc hd hx b1 b2 hrow1 HS.out HH.out HV.out hgr rfl rfl rfl rfl rfl, by simp [intOf]; omega⟩
    · have hke : k = m := by omega
      subst hke
      have b2 : h0 (o + k) < 4294967296 := HH0.out (o + k) (by omega)
      have b3 : h (o + k) < 4294967296 := by rw [HS.out (o + k) (Or.inr (Nat.le_refl _))]; exact b2
      have hcell := hrow1.cell (show o + k < N by omega)
      have hfr := hrow1.frozen (o + k)
      go_wp2_with ((with_reducible refine (sub32_any _ _ _ _ (by omega) (by omega) (by omega) (by omega) (by omega) (by omega)).mono ?_); rintro e w' ⟨rfl, rfl⟩)
      go_ret
      exact rets_end hc hd b2 hrow1 HS.out HH.out HV.out hgr rfl rfl

theorem subM_no (g0 N o ca : Nat) (b off m cb : Nat) (g h0 : Nat → Nat) (x : Nat) (w : World) (hN : N ≤ 4000000) (hm : m ≤ 1000000) (hoN : o + (m + 1) ≤ N) (hrow : Row w g0 N h0)
    (hne : b ≠ g0) (hb : b < w.heap.size) (hcs : ∀ i, i < m → w.cell? ⟨b, off + i, none⟩ = some (.int .u32 ((g i : Nat) : Int))) (hg : ∀ i, i < m → g i < W) (hh : ∀ i, i < N → h0 i < W) (hx : x < 4294967296) (hle : x * V g m ≤ V (sh h0 o) (m + 1)) :
    Calls Tryz.prog 136 #[.slice (some ⟨g0, o, none⟩) (m + 1) ca, .slice (some ⟨b, off, none⟩) m cb, .int .u32 (x : Int)] w fun e w' => ∃ h : Nat → Nat, e = .returned (.bool false) ∧ Row w' g0 N h ∧ (∀ j, j < o ∨ o + (m + 1) ≤ j → h j = h0 j) ∧ (∀ j, j < m + 1 → sh h o j < W) ∧
      V (sh h o) (m + 1) + x * V g m = V (sh h0 o) (m + 1) ∧ w.grownBy w' (some g0) := by
  refine (subM_any g0 N o ca b off m cb g h0 x w hN hm hoN hrow hne hb hcs hg hh hx).mono ?_
  rintro e w' ⟨d, h, rfl, hd, h1, h2, h3, h4, h5⟩
  have hlt := V_lt h3
  have hd0 : d = 0 := by
    rcases Nat.eq_zero_or_pos d with h0 | h0
    · exact h0
    · have := Nat.mul_le_mul_right (W ^ (m + 1)) h0
      omega
  subst hd0
  exact ⟨h, rfl, h1, h2, h3, by omega, h5⟩

theorem subM_yes (g0 N o ca : Nat) (b off m cb : Nat) (g h0 : Nat → Nat) (x : Nat) (w : World) (hN : N ≤ 4000000) (hm : m ≤ 1000000) (hoN : o + (m + 1) ≤ N) (hrow : Row w g0 N h0)
    (hne : b ≠ g0) (hb : b < w.heap.size) (hcs : ∀ i, i < m → w.cell? ⟨b, off + i, none⟩ = some (.int .u32 ((g i : Nat) : Int))) (hg : ∀ i, i < m → g i < W) (hh : ∀ i, i < N → h0 i < W) (hx : x < 4294967296) (hlt : V (sh h0 o) (m + 1) < x * V g m) :
    Calls Tryz.prog 136 #[.slice (some ⟨g0, o, none⟩) (m + 1) ca, .slice (some ⟨b, off, none⟩) m cb, .int .u32 (x : Int)] w fun e w' => ∃ h : Nat → Nat, e = .returned (.bool true) ∧ Row w' g0 N h ∧ (∀ j, j < o ∨ o + (m + 1) ≤ j → h j = h0 j) ∧ (∀ j, j < m + 1 → sh h o j < W) ∧
      V (sh h o) (m + 1) + x * V g m = V (sh h0 o) (m + 1) + W ^ (m + 1) ∧ w.grownBy w' (some g0) := by
  refine (subM_any g0 N o ca b off m cb g h0 x w hN hm hoN hrow hne hb hcs hg hh hx).mono ?_
  rintro e w' ⟨d, h, rfl, hd, h1, h2, h3, h4, h5⟩
  have hd1 : d = 1 := by
    rcases Nat.eq_zero_or_pos d with h0 | h0
    · subst h0; omega
    · omega
  subst hd1
  exact ⟨h, rfl, h1, h2, h3, by omega, h5⟩

end Go.Proofs.YtfhmhkbjcccejaaGreatDoor
