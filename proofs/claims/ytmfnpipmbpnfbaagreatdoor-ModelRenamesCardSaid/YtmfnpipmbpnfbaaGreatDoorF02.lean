/- Shifts of digits in memory. -/
import Derived.Test.YtmfnpipmbpnfbaaGreatDoorF01
import Derived.Deep.AppendLies

set_option maxRecDepth 100000
set_option maxHeartbeats 40000000
namespace Go.Proofs.YtmfnpipmbpnfbaaGreatDoor
open Go.RowKit
theorem two_pow_cast (s : Nat) : ((2 ^ s : Nat) : Int) = (2 : Int) ^ s := by rw [Int.natCast_pow]; rfl
theorem two_pow_le (s : Nat) (hs : s < 32) : 2 ^ s ≤ 2147483648 := by
  have : 2 ^ s ≤ 2 ^ 31 := Nat.pow_le_pow_right (by omega) (by omega)
  omega
theorem two_pow_pos (s : Nat) : 0 < 2 ^ s := Nat.pow_pos (by omega)
theorem shl_val (x s : Nat) (hx : x < 4294967296) (hs : s < 32) : IntKind.u64.wrap ((x : Int) * 2 ^ s) = ((x * 2 ^ s : Nat) : Int) := by
  have h1 : x * 2 ^ s ≤ 4294967295 * 2147483648 := Nat.mul_le_mul (by omega) (two_pow_le s hs)
  rw [← two_pow_cast, ← Int.natCast_mul, IntKind.wrap_u64]
  omega
def ShlRel (w : World) (n s : Nat) (f : Nat → Nat) (i : Value) (wr : World) : Prop :=
  ∃ (k : Nat) (h : Nat → Nat), k ≤ n ∧ i = .int .i64 (k : Int) ∧ Row wr w.heap.size (n + 1) h ∧ (∀ j, j < n + 1 → h j < W) ∧ (∀ j, k < j → h j = 0) ∧ h k < 2 ^ s ∧ V h (k + 1) = V f k * 2 ^ s ∧ Below w.heap.size w wr
theorem shlrel_start (w : World) (n s : Nat) (f : Nat → Nat) : ShlRel w n s f (.int .i64 0) (w.alloc (.cells (madeCells #[.int .u32 0] (n + 1)) 193)) :=
  ⟨0, fun _ => 0, Nat.zero_le _, rfl, Row.new w _, fun j hj => W_pos, fun j hj => rfl, two_pow_pos s, by simp [V_succ, V_zero], (Below.refl _ _).alloc (Nat.le_refl _) _⟩
theorem shlrel_step {w wr w2 : World} {n s k : Nat} {f h : Nat → Nat} (hs : s < 32) (hk : k < n) (hf : f k < 4294967296) (hrow : Row wr w.heap.size (n + 1) h) (hW : ∀ j, j < n + 1 → h j < W) (hz : ∀ j, k < j → h j = 0)
    (hsm : h k < 2 ^ s) (hv : V h (k + 1) = V f k * 2 ^ s) (hbel : Below w.heap.size w wr) {a : Int} {i : Value} (ha : a = (k : Int) + 1) (hi : i = .int .i64 a)
    (hw : w2 = (wr.setCell ⟨w.heap.size, k, none⟩ (.int .u32 (bits BinOp.or IntKind.u32 ((h k : Nat) : Int) (IntKind.u64.wrap (((f k : Nat) : Int) * 2 ^ s) % 4294967296)))).setCell ⟨w.heap.size, k + 1, none⟩ (.int .u32 (IntKind.u64.wrap (((f k : Nat) : Int) * 2 ^ s) / 4294967296 % 4294967296))) :
    ShlRel w n s f i w2 := by
  subst ha hi hw
  rw [shl_val _ _ hf hs]
  have hp := two_pow_le s hs
  obtain ⟨t, ht⟩ : ∃ t, t = f k * 2 ^ s := ⟨_, rfl⟩
  have htle : t ≤ 4294967295 * 2 ^ s := by rw [ht]; exact Nat.mul_le_mul_right _ (by omega)
  have e1 : ((f k * 2 ^ s : Nat) : Int) % 4294967296 = ((t % 4294967296 : Nat) : Int) := by rw [← ht]; omega
  have e2 : ((f k * 2 ^ s : Nat) : Int) / 4294967296 % 4294967296 = ((t / W : Nat) : Int) := by rw [← ht, W_eq]; omega
  have hmod : t % 4294967296 % 2 ^ s = 0 := by
    have hW2 : (4294967296 : Nat) = 2 ^ s * 2 ^ (32 - s) := W_two s (by omega)
    rw [hW2, Nat.mod_mul_right_mod, ht, Nat.mul_mod_left]
  have hlt : t % 4294967296 + h k < 4294967296 := by
    have hW2 : (4294967296 : Nat) = 2 ^ (32 - s) * 2 ^ s := by rw [Nat.mul_comm]; exact W_two s (by omega)
    have hd : 2 ^ s ∣ t % 4294967296 := Nat.dvd_of_mod_eq_zero hmod
    obtain ⟨q, hq⟩ := hd
    have h1 : t % 4294967296 < 4294967296 := Nat.mod_lt _ (by omega)
    have h2 : q < 2 ^ (32 - s) := by
      rcases Nat.lt_or_ge q (2 ^ (32 - s)) with g | g
      · exact g
      · have := Nat.mul_le_mul_left (2 ^ s) g
        rw [Nat.mul_comm (2 ^ s) (2 ^ (32 - s)), ← hW2] at this
        omega
    have h3 : 2 ^ s * (q + 1) ≤ 2 ^ s * 2 ^ (32 - s) := Nat.mul_le_mul_left _ h2
    rw [Nat.mul_comm (2 ^ s) (2 ^ (32 - s)), ← hW2, Nat.mul_add, Nat.mul_one, ← hq] at h3
    omega
  have e3 : bits BinOp.or IntKind.u32 ((h k : Nat) : Int) ((t % 4294967296 : Nat) : Int) = ((t % W + h k : Nat) : Int) := by
    rw [u32_or_nat _ _ (by omega) (Nat.mod_lt _ (by omega)), Nat.or_comm, nat_join s _ _ hmod hsm]
    rfl
  rw [e1, e2, e3]
  have hq : t / W < 2 ^ s := by rw [W_eq]; omega
  refine ⟨k + 1, up (up h k (t % W + h k)) (k + 1) (t / W), by omega, by rw [show ((k + 1 : Nat) : Int) = (k : Int) + 1 from by omega], (hrow.set _ _).set _ _, ?_, ?_, ?_, ?_, (hbel.setCell (Nat.le_refl _) _).setCell (Nat.le_refl _) _⟩
  · intro j hj
    by_cases g1 : j = k + 1
    · rw [g1, up_at, W_eq]; omega
    · rw [up_far _ _ g1]
      by_cases g2 : j = k
      · rw [g2, up_at]; exact hlt
      · rw [up_far _ _ g2]; exact hW j hj
  · intro j hj
    rw [up_far _ _ (by omega), up_far _ _ (by omega)]; exact hz j (by omega)
  · rw [up_at]; exact hq
  · rw [V_succ, up_at, V_up_below _ _ (Nat.le_refl _), V_succ, up_at, V_up_below _ _ (Nat.le_refl _), V_succ f, ht]
    rw [V_succ] at hv
    exact shl_step hv
def RetShl (w : World) (n s : Nat) (f : Nat → Nat) (e : Ending) (w' : World) : Prop :=
  ∃ h : Nat → Nat, e = .returned (.slice (some ⟨w.heap.size, 0, none⟩) (n + 1) (n + 1)) ∧ Row w' w.heap.size (n + 1) h ∧ (∀ j, j < n + 1 → h j < W) ∧ V h (n + 1) = V f n * 2 ^ s ∧ Below w.heap.size w w'
theorem shl_any (A : Option Addr) (n ca s : Nat) (f : Nat → Nat) (w : World) (hn : n ≤ 1000000) (hs : s < 32) (hA : Dg w A n f) (hf : ∀ i, i < n → f i < W) :
    Calls Tryz.prog 287 #[.slice A n ca, .int .i64 (s : Int)] w (RetShl w n s f) := by
  have hmk := make_row (n + 1) (by omega)
  have ec : ((n + 1 : Nat) : Int) = (n : Int) + 1 := by omega
  rw [ec] at hmk
  have HF := Lib.hid hf
  clear hf
  go_enter Tryz.func287, Tryz.ntmps287
  go_wp2_with fail
  clear hmk ec
  go_loopw [15] (fun i wr => ShlRel w n s f i wr) (fun i _ => n - (intOf i).toNat)
  case atStart => exact shlrel_start w n s f
  case round =>
    obtain ⟨k, h, hk, rfl, hrow, hW, hz, hsm, hv, hbel⟩ := hrel
    have HW := Lib.hid hW
    have HZ := Lib.hid hz
    have HV := Lib.hid hv
    have HS := Lib.hid hsm
    clear hW hz hv hsm
    by_cases hlt : k < n
    · obtain ⟨b, off, rfl, hb, hcells⟩ := hA (by omega)
      have hc1 := (hbel.cell (p := ⟨b, off + k, none⟩) hb).trans (hcells k hlt)
      have hfk : f k < 4294967296 := HF.out k hlt
      have hcell := hrow.cell (show k < n + 1 by omega)
      have hfr := hrow.frozen k
      have hcell2 := hrow.cell (show k + 1 < n + 1 by omega)
      have hfr2 := hrow.frozen (k + 1)
      have hhk : h k < 4294967296 := HW.out k (by omega)
      clear hcells
      go_wp2_with fail
      exact ⟨shlrel_step hs hlt hfk hrow HW.out HZ.out HS.out HV.out hbel rfl rfl rfl, by simp [intOf]; omega⟩
    · have hke : k = n := by omega
      subst hke
      go_wp2_with fail
      go_ret
      exact ⟨h, rfl, hrow, HW.out, HV.out, hbel⟩
def ShrRel (w : World) (n s X : Nat) (i : Value) (wr : World) : Prop :=
  ∃ (k : Nat) (h : Nat → Nat), k ≤ n ∧ i = .int .i64 (k : Int) ∧ Row wr w.heap.size n h ∧ (∀ j, j < k → h j = X / 2 ^ s / W ^ j % W) ∧ Below w.heap.size w wr
theorem shrrel_start (w : World) (n s X : Nat) : ShrRel w n s X (.int .i64 0) (w.alloc (.cells (madeCells #[.int .u32 0] n) 193)) :=
  ⟨0, fun _ => 0, Nat.zero_le _, rfl, Row.new w _, fun j hj => by omega, (Below.refl _ _).alloc (Nat.le_refl _) _⟩
theorem shrrel_step {w wr w2 : World} {n s X k q : Nat} {f h : Nat → Nat} (hs : s < 32) (hk : k < n) (hf : ∀ i, i < n → f i < W) (hX : X = V f n) (hrow : Row wr w.heap.size n h) (hd : ∀ j, j < k → h j = X / 2 ^ s / W ^ j % W)
    (hbel : Below w.heap.size w wr) {a : Int} {i : Value} (ha : a = (k : Int) + 1) (hi : i = .int .i64 a)
    (hw : w2 = (wr.drewN q).setCell ⟨w.heap.size, k, none⟩ (.int .u32 ((((ext f n (k + 1) : Nat) : Int) * 4294967296 + ((f k : Nat) : Int)) / 2 ^ s % 4294967296))) :
    ShrRel w n s X i w2 := by
  subst ha hi hw
  have hx0 : X / W ^ k % W = f k := by rw [hX]; exact V_digit hf hk
  have hx1 : X / W ^ (k + 1) % W = ext f n (k + 1) := by
    by_cases g : k + 1 < n
    · rw [ext_in g, hX]; exact V_digit hf g
    · have hXW : X < W ^ (k + 1) := by rw [hX, show k + 1 = n from by omega]; exact V_lt hf
      rw [ext_out (by omega), Nat.div_eq_of_lt hXW, Nat.zero_mod]
  obtain ⟨t, ht⟩ : ∃ t, t = X / 2 ^ s / W ^ k % W := ⟨_, rfl⟩
  have e : (((ext f n (k + 1) : Nat) : Int) * 4294967296 + ((f k : Nat) : Int)) / 2 ^ s % 4294967296 = (t : Int) := by
    have h1 := shr_digit X s k hs
    rw [hx0, hx1] at h1
    rw [ht, ← h1, ← two_pow_cast]
    have e1 : ((ext f n (k + 1) : Nat) : Int) * 4294967296 + ((f k : Nat) : Int) = ((f k + W * ext f n (k + 1) : Nat) : Int) := by rw [W_eq]; omega
    rw [e1, ← Int.natCast_ediv, W_eq]
    omega
  rw [e]
  have hrow' : Row (wr.drewN q) w.heap.size n h := hrow.drewN q
  have hbel' : Below w.heap.size w (wr.drewN q) := ⟨hbel.os, hbel.tape, hbel.output, hbel.size, hbel.block⟩
  refine ⟨k + 1, up h k t, by omega, by rw [show ((k + 1 : Nat) : Int) = (k : Int) + 1 from by omega], hrow'.set _ _, ?_, hbel'.setCell (Nat.le_refl _) _⟩
  intro j hj
  by_cases g : j = k
  · rw [g, up_at, ht]
  · rw [up_far _ _ g]; exact hd j (by omega)
theorem shr_any (A : Option Addr) (n ca s : Nat) (f : Nat → Nat) (w : World) (hn : n ≤ 1000000) (hs : s < 32) (hA : Dg w A n f) (hf : ∀ i, i < n → f i < W) :
    Calls Tryz.prog 289 #[.slice A n ca, .int .i64 (s : Int)] w (RetD (V f n / 2 ^ s) w) := by
  have hmk := make_row n (by omega)
  have HF := Lib.hid hf
  clear hf
  go_enter Tryz.func289, Tryz.ntmps289
  go_wp2_with fail
  clear hmk
  go_loopw [13] (fun i wr => ShrRel w n s (V f n) i wr) (fun i _ => n - (intOf i).toNat)
  case atStart => exact shrrel_start w n s _
  case round =>
    obtain ⟨k, h, hk, rfl, hrow, hd, hbel⟩ := hrel
    have HD := Lib.hid hd
    clear hd
    by_cases hlt : k < n
    · have hA1 : Dg wr A n f := hA.keep hbel
      have hAA := hA1
      obtain ⟨b, off, rfl, hb, hcells⟩ := hA1 (by omega)
      have hc1 := hcells k hlt
      have hfk : f k < 4294967296 := HF.out k hlt
      have hfk1 := ext_lt HF.out (k + 1)
      have hcell := hrow.cell hlt
      have hfr := hrow.frozen k
      have hkn : (k : Int) < (n : Int) := by omega
      clear hcells
      go_wp2_with fail
      have hwr : IntKind.i64.wrap ((k : Int) + 1) = (k : Int) + 1 := IntWalk.i64_in _ (by omega)
      have hor : bits BinOp.or IntKind.u64 (((ext f n (k + 1) : Nat) : Int) * 4294967296) ((f k : Nat) : Int) = ((ext f n (k + 1) : Nat) : Int) * 4294967296 + ((f k : Nat) : Int) := by
        rw [u64_or _ _ (by omega) (by omega) (by omega) (by omega), nat_join 32 _ _ (by omega) (by omega)]
        omega
      have hk1 : ((k : Int) + 1).toNat = k + 1 := by omega
      go_quiet ((go_at_call 270; exact Calls.quiet_of_same ((at_any _ _ _ f _ _ (by omega) (by omega) (by omega) (Dg.drewN hAA _)).mono fun _ _ hh => ⟨hh.1, hh.2.symm⟩)))
      clear hwr hk1 hor
      go_wp2_with fail
      exact ⟨shrrel_step hs hlt HF.out rfl hrow HD.out hbel rfl rfl rfl, by simp [intOf]; omega⟩
    · have hke : k = n := by omega
      have HR := Lib.hid (hrow.dg (Nat.le_refl _))
      have HE : Hid (V h n = V f n / 2 ^ s ∧ ∀ i, i < n → h i < W) := by
        subst hke
        constructor
        · rw [V_congr HD.out, V_digits]
          exact Nat.mod_eq_of_lt (Nat.lt_of_le_of_lt (Nat.div_le_self _ _) (V_lt HF.out))
        · intro i hi
          rw [HD.out i hi]; exact Nat.mod_lt _ W_pos
      clear hke HD
      go_wp2_with ((with_reducible refine (trim_any _ _ _ h _ (Nat.le_refl _) (by omega) HR.out).mono ?_); rintro e w' ⟨q, rfl, hq, hN, hQ, rfl⟩)
      go_ret
      refine ⟨_, rfl, ⟨_, q, _, h, rfl, by omega, fun i hi => HE.out.2 i (by omega), hN, hQ.trans HE.out.1, ?_, hrow.tt _⟩, hbel⟩
      intro h0
      obtain ⟨b, off, e1, e2, e3⟩ := HR.out (by omega)
      exact ⟨b, off, e1, e2, fun i hi => e3 i (by omega)⟩
theorem or_shift (r u : Int) (h1 : 0 ≤ r) (h2 : r < 4294967296) (h3 : 0 ≤ u) (h4 : u < 4294967296) : bits BinOp.or IntKind.u64 (r * 4294967296) u = r * 4294967296 + u := by
  rw [u64_or _ _ (by omega) (by omega) (by omega) (by omega), nat_join 32 _ _ (by omega) (by omega)]
  omega
theorem prod_bounds (a b : Nat) (ha : a < 4294967296) (hb : b < 4294967296) : 0 ≤ (a : Int) * (b : Int) ∧ (a : Int) * (b : Int) ≤ 18446744065119617025 := by
  have h : a * b ≤ 4294967295 * 4294967295 := Nat.mul_le_mul (by omega) (by omega)
  have e : ((a * b : Nat) : Int) = (a : Int) * (b : Int) := Int.natCast_mul _ _
  omega
theorem prod_lt {R u G v : Nat} (h : (R : Int) * 4294967296 + (u : Int) < (G : Int) * (v : Int)) : R * W + u < G * v ∧ 0 < G := by
  have e : ((G * v : Nat) : Int) = (G : Int) * (v : Int) := Int.natCast_mul _ _
  have h2 : R * W + u < G * v := by rw [W_eq]; omega
  refine ⟨h2, ?_⟩
  rcases Nat.eq_zero_or_pos G with h0 | h0
  · subst h0; simp at h2
  · exact h0
theorem prod_ge {R u G v : Nat} (h : ¬ (R : Int) * 4294967296 + (u : Int) < (G : Int) * (v : Int)) : G * v ≤ R * W + u := by
  have e : ((G * v : Nat) : Int) = (G : Int) * (v : Int) := Int.natCast_mul _ _
  rw [W_eq]; omega
def IsGuess (T3 B2 x : Nat) : Prop := x < W ∧ x * B2 ≤ T3 ∧ ∀ y, y < W → y * B2 ≤ T3 → y ≤ x
def GRel (u2 u1 u0 v1 v0 : Nat) (g r : Value) : Prop :=
  ∃ G R : Nat, g = .int .u64 (G : Int) ∧ r = .int .u64 (R : Int) ∧ G * v1 + R = u2 * W + u1 ∧ R < 4294967296 ∧ G ≤ 4294967298 ∧ ∀ y, y < W → y * (v1 * W + v0) ≤ (u2 * W + u1) * W + u0 → y ≤ G
theorem mul_b2 (G v1 v0 : Nat) : G * (v1 * W + v0) = G * v1 * W + G * v0 := by rw [Nat.mul_add, Nat.mul_assoc]
theorem grel_start (u2 u1 u0 v1 v0 : Nat) (h2 : u2 ≤ v1) (hu1 : u1 < W) (hu0 : u0 < W) (hv31 : 2147483648 ≤ v1) {a b : Int} (ha : a = ((u2 : Int) * 4294967296 + (u1 : Int)) / (v1 : Int)) (hb : b = ((u2 : Int) * 4294967296 + (u1 : Int)) % (v1 : Int)) (hv1 : v1 < W) :
    GRel u2 u1 u0 v1 v0 (.int .u64 a) (.int .u64 b) := by
  have hv : 0 < v1 := by omega
  obtain ⟨t, ht⟩ : ∃ t, t = u2 * W + u1 := ⟨_, rfl⟩
  have e : (u2 : Int) * 4294967296 + (u1 : Int) = (t : Int) := by rw [ht, W_eq]; omega
  refine ⟨t / v1, t % v1, by rw [ha, e, Int.natCast_ediv], by rw [hb, e, Int.natCast_emod], ?_, ?_, ?_, ?_⟩
  · rw [← ht, Nat.mul_comm, Nat.div_add_mod]
  · have := Nat.mod_lt t hv; have : v1 < 4294967296 := hv1; omega
  · have h1 : t / v1 ≤ 4294967297 := by
      rw [← Nat.lt_succ_iff, Nat.div_lt_iff_lt_mul hv]
      rw [W_eq] at ht hu1
      have h3 : u2 * 4294967296 ≤ v1 * 4294967296 := Nat.mul_le_mul_right _ h2
      omega
    omega
  · intro y hy hyT
    rw [Nat.le_div_iff_mul_le hv]
    rw [mul_b2, ← ht] at hyT
    have h1 : y * v1 * W < (t + 1) * W := by rw [Nat.add_mul, Nat.one_mul]; omega
    have := Nat.lt_of_mul_lt_mul_right h1
    omega
theorem guess_stop {u2 u1 u0 v1 v0 G R : Nat} (he : G * v1 + R = u2 * W + u1) (hy : ∀ y, y < W → y * (v1 * W + v0) ≤ (u2 * W + u1) * W + u0 → y ≤ G) (hG : G < W) (ht : G * v0 ≤ R * W + u0) :
    IsGuess ((u2 * W + u1) * W + u0) (v1 * W + v0) G := by
  refine ⟨hG, ?_, hy⟩
  rw [mul_b2, ← he, Nat.add_mul]
  omega
theorem guess_break {u2 u1 u0 v1 v0 G R : Nat} (he : G * v1 + R = u2 * W + u1) (hy : ∀ y, y < W → y * (v1 * W + v0) ≤ (u2 * W + u1) * W + u0 → y ≤ G) (h2 : u2 ≤ v1) (hu1 : u1 < W) (hv0 : v0 < W) (hR : W ≤ R) :
    IsGuess ((u2 * W + u1) * W + u0) (v1 * W + v0) G := by
  have hG : G < W := by
    rcases Nat.lt_or_ge G W with g | g
    · exact g
    · have h1 : W * v1 ≤ G * v1 := Nat.mul_le_mul_right _ g
      have h3 : u2 * W ≤ v1 * W := Nat.mul_le_mul_right _ h2
      rw [Nat.mul_comm W v1] at h1
      omega
  refine guess_stop he hy hG ?_
  have h1 : G * v0 ≤ W * W := Nat.mul_le_mul (by omega) (by omega)
  have h3 : W * W ≤ R * W := Nat.mul_le_mul_right _ hR
  omega
theorem guess_next {u2 u1 u0 v1 v0 G R : Nat} (he : G * v1 + R = u2 * W + u1) (hy : ∀ y, y < W → y * (v1 * W + v0) ≤ (u2 * W + u1) * W + u0 → y ≤ G) (hG : 0 < G) (ht : W ≤ G ∨ R * W + u0 < G * v0) :
    (G - 1) * v1 + (R + v1) = u2 * W + u1 ∧ ∀ y, y < W → y * (v1 * W + v0) ≤ (u2 * W + u1) * W + u0 → y ≤ G - 1 := by
  obtain ⟨g, rfl⟩ : ∃ g, G = g + 1 := ⟨G - 1, by omega⟩
  constructor
  · rw [Nat.add_mul, Nat.one_mul] at he
    simp only [Nat.add_sub_cancel]
    omega
  · intro y h1 h2
    have h3 := hy y h1 h2
    have h4 : y ≠ g + 1 := by
      rintro rfl
      rcases ht with h | h
      · omega
      · rw [mul_b2, ← he, Nat.add_mul ((g + 1) * v1) R W] at h2
        omega
    omega
def RetG (w : World) (T3 B2 : Nat) (e : Ending) (w' : World) : Prop := ∃ x : Nat, e = .returned (.int .u32 (x : Int)) ∧ IsGuess T3 B2 x ∧ Drn w w'
theorem guess_any (a0 N b0 M n ca cb u2 u1 u0 v1 v0 : Nat) (w : World) (hn : n ≤ 1000000) (hn2 : 2 ≤ n)
    (hA2 : w.cell? ⟨a0, N + n, none⟩ = some (.int .u32 (u2 : Int))) (hA1 : w.cell? ⟨a0, N + (n - 1), none⟩ = some (.int .u32 (u1 : Int))) (hA0 : w.cell? ⟨a0, N + (n - 2), none⟩ = some (.int .u32 (u0 : Int)))
    (hB1 : w.cell? ⟨b0, M + (n - 1), none⟩ = some (.int .u32 (v1 : Int))) (hB0 : w.cell? ⟨b0, M + (n - 2), none⟩ = some (.int .u32 (v0 : Int)))
    (g2 : u2 < 4294967296) (g1 : u1 < 4294967296) (g0 : u0 < 4294967296) (f1 : v1 < 4294967296) (f0 : v0 < 4294967296) (hv : 2147483648 ≤ v1) (huv : u2 ≤ v1) :
    Calls Tryz.prog 292 #[.slice (some ⟨a0, N, none⟩) (n + 1) ca, .slice (some ⟨b0, M, none⟩) n cb] w (RetG w ((u2 * W + u1) * W + u0) (v1 * W + v0)) := by
  have q1 : 0 ≤ (n : Int) - 1 := by omega
  have q2 : 0 ≤ (n : Int) - 2 := by omega
  have q3 : 0 < (v1 : Int) := by omega
  have HV31 := Lib.hid hv
  clear hv
  have hor := or_shift (u2 : Int) (u1 : Int) (by omega) (by omega) (by omega) (by omega)
  go_enter Tryz.func292, Tryz.ntmps292
  go_wp2_with fail
  go_quiet (fail)
  go_wp2_with fail
  go_quiet (fail)
  go_wp2_with fail
  go_quiet (fail)
  go_wp2_with fail
  clear hor
  clear hA2 hA1 hB1 hB0
  go_loop [9, 10] (fun g r => GRel u2 u1 u0 v1 v0 g r) (fun g _ => (intOf g).toNat)
  case atStart => exact grel_start u2 u1 u0 v1 v0 huv g1 g0 HV31.out rfl rfl f1
  case round =>
    obtain ⟨G, R, rfl, rfl, he, hR, hG, hy⟩ := hrel
    have HE := Lib.hid he
    have HY := Lib.hid hy
    clear he hy
    have hnx : ∀ (x : Int), x = (G : Int) - 1 → 0 < G → (W ≤ G ∨ R * W + u0 < G * v0) → ¬ (4294967296 : Int) ≤ (R : Int) + (v1 : Int) → GRel u2 u1 u0 v1 v0 (.int .u64 x) (.int .u64 ((R : Int) + (v1 : Int))) := by
      intro x hx h0 h1 h2
      obtain ⟨n1, n2⟩ := guess_next HE.out HY.out h0 h1
      exact ⟨G - 1, R + v1, by rw [hx, show ((G - 1 : Nat) : Int) = (G : Int) - 1 from by omega], by rw [Int.natCast_add], n1, by omega, by omega, n2⟩
    have HNX := Lib.hid hnx
    clear hnx
    have hbr : 0 < G → (W ≤ G ∨ R * W + u0 < G * v0) → (4294967296 : Int) ≤ (R : Int) + (v1 : Int) → IsGuess ((u2 * W + u1) * W + u0) (v1 * W + v0) (G - 1) := by
      intro h0 h1 h2
      obtain ⟨n1, n2⟩ := guess_next HE.out HY.out h0 h1
      exact guess_break n1 n2 huv g1 f0 (by rw [W_eq]; omega)
    have HBR := Lib.hid hbr
    clear hbr
    by_cases c1 : W ≤ G
    · have c1' : (4294967296 : Int) ≤ (G : Int) := by rw [W_eq] at c1; omega
      have C1 := Lib.hid c1
      clear c1
      by_cases c2 : (4294967296 : Int) ≤ (R : Int) + (v1 : Int)
      · have HB := Lib.hid (HBR.out (by omega) (Or.inl C1.out) c2)
        have hsm : (G : Int) - 1 < 4294967296 := by have := HB.out.1; rw [W_eq] at this; omega
        go_wp2_with fail
        go_ret
        exact ⟨G - 1, by rw [show ((G - 1 : Nat) : Int) = (G : Int) - 1 from by omega]; rfl, HB.out, (Drn.refl w).more _⟩
      · have HN := Lib.hid (HNX.out _ rfl (by omega) (Or.inl C1.out) c2)
        go_wp2_with fail
        exact ⟨HN.out, by simp [intOf]; omega⟩
    · have c1' : G < 4294967296 := by rw [W_eq] at c1; omega
      have hb1 : decide ((4294967296 : Int) ≤ (G : Int)) = false := by simp; omega
      obtain ⟨hp0, hp1⟩ := prod_bounds G v0 (by omega) f0
      have hor2 := or_shift (R : Int) (u0 : Int) (by omega) (by omega) (by omega) (by omega)
      have C1 := Lib.hid c1
      clear c1
      by_cases c3 : (R : Int) * 4294967296 + (u0 : Int) < (G : Int) * (v0 : Int)
      · have C3 := Lib.hid (prod_lt c3)
        have hG0 : 0 < G := C3.out.2
        by_cases c2 : (4294967296 : Int) ≤ (R : Int) + (v1 : Int)
        · have HB := Lib.hid (HBR.out C3.out.2 (Or.inr C3.out.1) c2)
          have hb2 : decide ((R : Int) * 4294967296 + (u0 : Int) < (G : Int) * (v0 : Int)) = true := by simpa using c3
          clear c3
          go_wp2_with fail
          go_ret
          exact ⟨G - 1, by rw [show ((G - 1 : Nat) : Int) = (G : Int) - 1 from by omega]; rfl, HB.out, (Drn.refl w).more _⟩
        · have HN := Lib.hid (HNX.out _ rfl C3.out.2 (Or.inr C3.out.1) c2)
          have hb2 : decide ((R : Int) * 4294967296 + (u0 : Int) < (G : Int) * (v0 : Int)) = true := by simpa using c3
          have c2' : R + v1 < 4294967296 := by omega
          have hb3 : decide ((4294967296 : Int) ≤ (R : Int) + (v1 : Int)) = false := by simp; omega
          clear c3 c2
          go_wp2_with fail
          exact ⟨HN.out, by simp [intOf]; omega⟩
      · have HB : Hid (IsGuess ((u2 * W + u1) * W + u0) (v1 * W + v0) G) := guess_stop HE.out HY.out (by have := C1.out; omega) (prod_ge c3)
        have hb2 : decide ((R : Int) * 4294967296 + (u0 : Int) < (G : Int) * (v0 : Int)) = false := by simpa using c3
        clear c3
        go_wp2_with fail
        go_ret
        exact ⟨G, rfl, HB.out, (Drn.refl w).more _⟩
def sh (h : Nat → Nat) (o : Nat) : Nat → Nat := fun j => h (o + j)
def MRel (w : World) (g0 N o m x : Nat) (g h0 : Nat → Nat) (carry i : Value) (wr : World) : Prop :=
  ∃ (k c : Nat) (h : Nat → Nat), k ≤ m ∧ i = .int .i64 (k : Int) ∧ carry = .int .u64 (c : Int) ∧ c < 4294967296 ∧ Row wr g0 N h ∧ (∀ j, j < o ∨ o + k ≤ j → h j = h0 j) ∧ (∀ j, j < k → sh h o j < W) ∧
    V (sh h o) k + c * W ^ k = V (sh h0 o) k + x * V g k ∧ w.grownBy wr (some g0)
theorem grown_set {w wr : World} {g0 : Nat} (h : w.grownBy wr (some g0)) (o : Nat) (u : Value) : w.grownBy (wr.setCell ⟨g0, o, none⟩ u) (some g0) :=
  ⟨h.os, h.tape, h.output, by simpa [World.setCell] using h.size, fun i hi hne => (Below.heap_setCell _ _ _ i (by
    rintro rfl
    exact hne rfl)).trans (h.block i hi hne)⟩
theorem mrel_start (w : World) {g0 N o m x : Nat} {g h0 : Nat → Nat} (hrow : Row w g0 N h0) : MRel w g0 N o m x g h0 (.int .u64 0) (.int .i64 0) w :=
  ⟨0, 0, h0, Nat.zero_le _, rfl, rfl, by omega, hrow, fun _ _ => rfl, fun j hj => by omega, by simp [V_zero], World.grownBy.refl w _⟩
theorem mrel_step {w wr : World} {g0 N o m x k c : Nat} {g h0 h : Nat → Nat} (hk : k < m) (hc : c < 4294967296) (hx : x < 4294967296) (hg : g k < 4294967296) (hh0 : h0 (o + k) < 4294967296) (hrow : Row wr g0 N h)
    (hsame : ∀ j, j < o ∨ o + k ≤ j → h j = h0 j) (hh : ∀ j, j < k → sh h o j < W) (hv : V (sh h o) k + c * W ^ k = V (sh h0 o) k + x * V g k) (hgr : w.grownBy wr (some g0)) {a s : Int} {i : Value}
    (hs : s = (x : Int) * ((g k : Nat) : Int) + ((h (o + k) : Nat) : Int) + (c : Int)) (ha : a = (k : Int) + 1) (hi : i = .int .i64 a) :
    MRel w g0 N o m x g h0 (.int .u64 (s / 4294967296)) i (wr.setCell ⟨g0, o + k, none⟩ (.int .u32 (s % 4294967296))) := by
  subst hs ha hi
  have e0 : h (o + k) = h0 (o + k) := hsame _ (Or.inr (Nat.le_refl _))
  have hp : x * g k ≤ 4294967295 * 4294967295 := Nat.mul_le_mul (by omega) (by omega)
  obtain ⟨t, ht⟩ : ∃ t, t = x * g k + h (o + k) + c := ⟨_, rfl⟩
  have e1 : (x : Int) * ((g k : Nat) : Int) + ((h (o + k) : Nat) : Int) + (c : Int) = (t : Int) := by rw [ht, Int.natCast_add, Int.natCast_add, Int.natCast_mul]
  rw [e1]
  have e2 : (t : Int) % 4294967296 = ((t % W : Nat) : Int) := by rw [W_eq]; omega
  have e3 : (t : Int) / 4294967296 = ((t / W : Nat) : Int) := by rw [W_eq]; omega
  rw [e2, e3]
  have hup : V (sh (up h (o + k) (t % W)) o) k = V (sh h o) k := V_congr fun j hj => by unfold sh; exact up_far h _ (by omega)
  have hat : sh (up h (o + k) (t % W)) o k = t % W := by unfold sh; exact up_at _ _ _
  refine ⟨k + 1, t / W, up h (o + k) (t % W), by omega, by rw [show ((k + 1 : Nat) : Int) = (k : Int) + 1 from by omega], rfl, ?_, hrow.set _ _, ?_, ?_, ?_, grown_set hgr _ _⟩
  · rw [W_eq]; omega
  · intro j hj
    rw [up_far h _ (by omega)]
    exact hsame j (by omega)
  · intro j hj
    by_cases e : j = k
    · rw [e, hat]; exact Nat.mod_lt _ W_pos
    · have : sh (up h (o + k) (t % W)) o j = sh h o j := by unfold sh; exact up_far h _ (by omega)
      rw [this]; exact hh j (by omega)
  · rw [V_succ, V_succ, V_succ, hat, hup]
    have : sh h0 o k = h (o + k) := e0.symm
    rw [this]
    exact mac_step _ _ hv ht
def RetM (w : World) (g0 N o m x : Nat) (g h0 : Nat → Nat) (e : Ending) (w' : World) : Prop :=
  ∃ (c : Nat) (h : Nat → Nat), e = .returned (.int .u32 (c : Int)) ∧ c < 4294967296 ∧ Row w' g0 N h ∧ (∀ j, j < o ∨ o + m ≤ j → h j = h0 j) ∧ (∀ j, j < m → sh h o j < W) ∧
    V (sh h o) m + c * W ^ m = V (sh h0 o) m + x * V g m ∧ w.grownBy w' (some g0)
theorem addM_any (g0 N o n ca : Nat) (B : Option Addr) (m cb : Nat) (g h0 : Nat → Nat) (x : Nat) (w : World) (hN : N ≤ 4000000) (hm : m ≤ 1000000) (hmn : m ≤ n) (hoN : o + n ≤ N) (hrow : Row w g0 N h0) (hB : Dg w B m g)
    (hne : ∀ b off, B = some ⟨b, off, none⟩ → 0 < m → b ≠ g0) (hg : ∀ i, i < m → g i < W) (hh : ∀ i, i < N → h0 i < W) (hx : x < 4294967296) :
    Calls Tryz.prog 269 #[.slice (some ⟨g0, o, none⟩) n ca, .slice B m cb, .int .u32 (x : Int)] w (RetM w g0 N o m x g h0) := by
  have HG := Lib.hid hg
  have HH0 := Lib.hid hh
  have HNE := Lib.hid hne
  clear hg hh hne
  go_enter Tryz.func269, Tryz.ntmps269
  go_wp2_with fail
  go_loopw [7, 13] (fun c i wr => MRel w g0 N o m x g h0 c i wr) (fun _ i _ => m - (intOf i).toNat)
  case atStart => exact mrel_start w hrow
  case round =>
    obtain ⟨k, c, h, hk, rfl, rfl, hc, hrow1, hsame, hh, hv, hgr⟩ := hrel
    have HS := Lib.hid hsame
    have HH := Lib.hid hh
    have HV := Lib.hid hv
    clear hh hv hsame
    by_cases hlt : k < m
    · obtain ⟨b, off, rfl, hb, hcells⟩ := hB (by omega)
      have hbne : b ≠ g0 := HNE.out b off rfl (by omega)
      have hc1 : wr.cell? ⟨b, off + k, none⟩ = some (.int .u32 ((g k : Nat) : Int)) := (World.cell?_of_block (w := w) (a := ⟨b, off + k, none⟩) (hgr.block b hb (fun e => hbne (by injection e)))).trans (hcells k hlt)
      have b1 : g k < 4294967296 := HG.out k hlt
      have b2 : h0 (o + k) < 4294967296 := HH0.out (o + k) (by omega)
      have b3 : h (o + k) < 4294967296 := by rw [HS.out (o + k) (Or.inr (Nat.le_refl _))]; exact b2
      have hcell := hrow1.cell (show o + k < N by omega)
      have hfr := hrow1.frozen (o + k)
      have hp1 : (x : Int) * ((g k : Nat) : Int) ≤ 18446744065119617025 := by
        have : x * g k ≤ 4294967295 * 4294967295 := Nat.mul_le_mul (by omega) (by omega)
        have e : ((x * g k : Nat) : Int) = (x : Int) * ((g k : Nat) : Int) := Int.natCast_mul _ _
        omega
      have hp0 : 0 ≤ (x : Int) * ((g k : Nat) : Int) := by
        have e : ((x * g k : Nat) : Int) = (x : Int) * ((g k : Nat) : Int) := Int.natCast_mul _ _
        omega
      clear hcells hbne
      go_wp2_with fail
      go_roundw
      case rel => exact mrel_step hlt hc hx b1 b2 hrow1 HS.out HH.out HV.out hgr rfl rfl rfl
      case measure => simp [intOf]; omega
    · have hke : k = m := by omega
      go_wp2_with fail
      go_ret
      subst hke
      exact ⟨c, h, rfl, hc, hrow1, HS.out, HH.out, HV.out, hgr⟩
end Go.Proofs.YtmfnpipmbpnfbaaGreatDoor
