/- Shifts of digits in memory. -/
import Derived.Test.YtfhmhkbjcccejaaMPa

namespace Go.Proofs.Ytfhmhkbjcccejaa
open Go.RowKit

theorem two_pow_cast (s : Nat) : ((2 ^ s : Nat) : Int) = (2 : Int) ^ s := by rw [Int.natCast_pow]; rfl
theorem two_pow_le (s : Nat) (hs : s < 32) : 2 ^ s ≤ 2147483648 := by
  have : 2 ^ s ≤ 2 ^ 31 := Nat.pow_le_pow_right (by omega) (by omega)
  omega
theorem two_pow_pos (s : Nat) : 0 < 2 ^ s := Nat.pow_pos (by omega)

theorem shl_val (x s : Nat) (hx : x < 4294967296) (hs : s < 32) : IntKind.u64.wrap ((x : Int) * 2 ^ s) = ((x * 2 ^ s : Nat) : Int) := by
  have h1 : x * 2 ^ s ≤ 4294967295 * 2147483648 := Nat.mul_le_mul (by omega) (two_pow_le s hs)
  rw [← two_pow_cast, ← Int.natCast_mul, IntKind.wrap_u64]
  omega

/-- What has been shifted to the left after k digits. -/
def ShlRel (w : World) (n s : Nat) (f : Nat → Nat) (i : Value) (wr : World) : Prop :=
  ∃ (k : Nat) (h : Nat → Nat), k ≤ n ∧ i = .int .i64 (k : Int) ∧ Row wr w.heap.size (n + 1) h ∧ (∀ j, j < n + 1 → h j < W) ∧ (∀ j, k < j → h j = 0) ∧ h k < 2 ^ s ∧ V h (k + 1) = V f k * 2 ^ s ∧ Below w.heap.size w wr

theorem shlrel_start (w : World) (n s : Nat) (f : Nat → Nat) : ShlRel w n s f (.int .i64 0) (w.alloc (.cells (madeCells #[.int .u32 0] (n + 1)) 98)) :=
  ⟨0, fun _ => 0, Nat.zero_le _, rfl, Row.new w _, fun j hj => W_pos, fun j hj => rfl, two_pow_pos s, by simp [V_succ, V_zero], (Below.refl _ _).alloc (Nat.le_refl _) _⟩

theorem shlrel_step {w wr w2 : World} {n s k : Nat} {f h : Nat → Nat} (hs : s < 32) (hk : k < n) (hf : f k < 4294967296) (hrow : Row wr w.heap.size (n + 1) h) (hW : ∀ j, j < n + 1 → h j < W) (hz : ∀ j, k < j → h j = 0)
    (hsm : h k < 2 ^ s) (hv : V h (k + 1) = V f k * 2 ^ s) (hbel : Below w.heap.size w wr) {a : Int} {i : Value} (ha : a = (k : Int) + 1) (hi : i = .int .i64 a)
    (hw : w2 = (wr.setCell ⟨w.heap.size, k, none⟩ (.int .u32 (bits BinOp.or IntKind.u32 ((h k : Nat) : Int) (IntKind.u64.wrap (((f k : Nat) : Int) * 2 ^ s) % 4294967296)))).setCell ⟨w.heap.size, k + 1, none⟩ (.int .u32 (IntKind.u64.wrap (((f k : Nat) : Int) * 2 ^ s) / 4294967296 % 4294967296))) :
    ShlRel w n s f i w2 := by
  subst ha hi hw
  rw [shl_val _ _ hf hs]
  have hp := two_pow_le s hs
  obtain ⟨t, ht⟩ : ∃ t, t = f k * 2 ^ s := ⟨_, rfl⟩
  have htle : t ≤ 4294967295 * 2 ^ s := by rw [ht]; exact Nat.mul_le_mul_right _ (by omega)
  have e1 : ((f k * 2 ^ s : Nat) : Int) % 4294967296 = ((t % 4294967296 : Nat) : Int) := by rw [← ht]; omega
  have e2 : ((f k * 2 ^ s : Nat) : Int) / 4294967296 % 4294967296 = ((t / W : Nat) : Int) := by rw [← ht, W_eq]; omega
  have hmod : t % 4294967296 % 2 ^ s = 0 := by
    have hW2 : (4294967296 : Nat) = 2 ^ s * 2 ^ (32 - s) := W_two s (by omega)
    rw [hW2, Nat.mod_mul_right_mod, ht, Nat.mul_mod_left]
  have hlt : t % 4294967296 + h k < 4294967296 := by
    have hW2 : (4294967296 : Nat) = 2 ^ (32 - s) * 2 ^ s := by rw [Nat.mul_comm]; exact W_two s (by omega)
    have hd : 2 ^ s ∣ t % 4294967296 := Nat.dvd_of_mod_eq_zero hmod
    obtain ⟨q, hq⟩ := hd
    have h1 : t % 4294967296 < 4294967296 := Nat.mod_lt _ (by omega)
    have h2 : q < 2 ^ (32 - s) := by
      rcases Nat.lt_or_ge q (2 ^ (32 - s)) with g | g
      · exact g
      · have := Nat.mul_le_mul_left (2 ^ s) g
        rw [Nat.mul_comm (2 ^ s) (2 ^ (32 - s)), ← hW2] at this
        omega
    have h3 : 2 ^ s * (q + 1) ≤ 2 ^ s * 2 ^ (32 - s) := Nat.mul_le_mul_left _ h2
    rw [Nat.mul_comm (2 ^ s) (2 ^ (32 - s)), ← hW2, Nat.mul_add, Nat.mul_one, ← hq] at h3
    omega
  have e3 : bits BinOp.or IntKind.u32 ((h k : Nat) : Int) ((t % 4294967296 : Nat) : Int) = ((t % W + h k : Nat) : Int) := by
    rw [u32_or_nat _ _ (by omega) (Nat.mod_lt _ (by omega)), Nat.or_comm, nat_join s _ _ hmod hsm]
    rfl
  rw [e1, e2, e3]
  have hq : t / W < 2 ^ s := by rw [W_eq]; omega
  refine ⟨k + 1, up (up h k (t % W + h k)) (k + 1) (t / W), by omega, by rw [show ((k + 1 : Nat) : Int) = (k : Int) + 1 from by omega], (hrow.set _ _).set _ _, ?_, ?_, ?_, ?_, (hbel.setCell (Nat.le_refl _) _).setCell (Nat.le_refl _) _⟩
  · intro j hj
    by_cases g1 : j = k + 1
    · rw [g1, up_at, W_eq]; omega
    · rw [up_far _ _ g1]
      by_cases g2 : j = k
      · rw [g2, up_at]; exact hlt
      · rw [up_far _ _ g2]; exact hW j hj
  · intro j hj
    rw [up_far _ _ (by omega), up_far _ _ (by omega)]; exact hz j (by omega)
  · rw [up_at]; exact hq
  · rw [V_succ, up_at, V_up_below _ _ (Nat.le_refl _), V_succ, up_at, V_up_below _ _ (Nat.le_refl _), V_succ f, ht]
    rw [V_succ] at hv
    exact shl_step hv

/-- What a shift to the left returns: a row of its own, one digit longer. -/
def RetShl (w : World) (n s : Nat) (f : Nat → Nat) (e : Ending) (w' : World) : Prop :=
  ∃ h : Nat → Nat, e = .returned (.slice (some ⟨w.heap.size, 0, none⟩) (n + 1) (n + 1)) ∧ Row w' w.heap.size (n + 1) h ∧ (∀ j, j < n + 1 → h j < W) ∧ V h (n + 1) = V f n * 2 ^ s ∧ Below w.heap.size w w'

set_option maxRecDepth 100000 in
set_option maxHeartbeats 1000000 in
theorem shl_any (A : Option Addr) (n ca s : Nat) (f : Nat → Nat) (w : World) (hn : n ≤ 1000000) (hs : s < 32) (hA : Dg w A n f) (hf : ∀ i, i < n → f i < W) :
    Calls Try.prog 119 #[.slice A n ca, .int .i64 (s : Int)] w (RetShl w n s f) := by
  have hmk := make_row (n + 1) (by omega)
  have ec : ((n + 1 : Nat) : Int) = (n : Int) + 1 := by omega
  rw [ec] at hmk
  have HF := Lib.hid hf
  clear hf
  go_enter Try.func119, Try.ntmps119
  go_wp2_with fail
  clear hmk ec
  go_loopw [15] (fun i wr => ShlRel w n s f i wr) (fun i _ => n - (intOf i).toNat)
  case atStart => exact shlrel_start w n s f
  case round =>
    obtain ⟨k, h, hk, rfl, hrow, hW, hz, hsm, hv, hbel⟩ := hrel
    have HW := Lib.hid hW
    have HZ := Lib.hid hz
    have HV := Lib.hid hv
    have HS := Lib.hid hsm
    clear hW hz hv hsm
    by_cases hlt : k < n
    · obtain ⟨b, off, rfl, hb, hcells⟩ := hA (by omega)
      have hc1 := (hbel.cell (p := ⟨b, off + k, none⟩) hb).trans (hcells k hlt)
      have hfk : f k < 4294967296 := HF.out k hlt
      have hcell := hrow.cell (show k < n + 1 by omega)
      have hfr := hrow.frozen k
      have hcell2 := hrow.cell (show k + 1 < n + 1 by omega)
      have hfr2 := hrow.frozen (k + 1)
      have hhk : h k < 4294967296 := HW.out k (by omega)
      clear hcells
      go_wp2_with fail
      exact ⟨shlrel_step hs hlt hfk hrow HW.out HZ.out HS.out HV.out hbel rfl rfl rfl, by simp [intOf]; omega⟩
    · have hke : k = n := by omega
      subst hke
      go_wp2_with fail
      go_ret
      exact ⟨h, rfl, hrow, HW.out, HV.out, hbel⟩

/-- What has been shifted to the right after k digits. -/
def ShrRel (w : World) (n s X : Nat) (i : Value) (wr : World) : Prop :=
  ∃ (k : Nat) (h : Nat → Nat), k ≤ n ∧ i = .int .i64 (k : Int) ∧ Row wr w.heap.size n h ∧ (∀ j, j < k → h j = X / 2 ^ s / W ^ j % W) ∧ Below w.heap.size w wr

theorem shrrel_start (w : World) (n s X : Nat) : ShrRel w n s X (.int .i64 0) (w.alloc (.cells (madeCells #[.int .u32 0] n) 98)) :=
  ⟨0, fun _ => 0, Nat.zero_le _, rfl, Row.new w _, fun j hj => by omega, (Below.refl _ _).alloc (Nat.le_refl _) _⟩

theorem shrrel_step {w wr w2 : World} {n s X k q : Nat} {f h : Nat → Nat} (hs : s < 32) (hk : k < n) (hf : ∀ i, i < n → f i < W) (hX : X = V f n) (hrow : Row wr w.heap.size n h) (hd : ∀ j, j < k → h j = X / 2 ^ s / W ^ j % W)
    (hbel : Below w.heap.size w wr) {a : Int} {i : Value} (ha : a = (k : Int) + 1) (hi : i = .int .i64 a)
    (hw : w2 = (wr.drewN q).setCell ⟨w.heap.size, k, none⟩ (.int .u32 ((((ext f n (k + 1) : Nat) : Int) * 4294967296 + ((f k : Nat) : Int)) / 2 ^ s % 4294967296))) :
    ShrRel w n s X i w2 := by
  subst ha hi hw
  have hx0 : X / W ^ k % W = f k := by rw [hX]; exact V_digit hf hk
  have hx1 : X / W ^ (k + 1) % W = ext f n (k + 1) := by
    by_cases g : k + 1 < n
    · rw [ext_in g, hX]; exact V_digit hf g
    · have hXW : X < W ^ (k + 1) := by rw [hX, show k + 1 = n from by omega]; exact V_lt hf
      rw [ext_out (by omega), Nat.div_eq_of_lt hXW, Nat.zero_mod]
  obtain ⟨t, ht⟩ : ∃ t, t = X / 2 ^ s / W ^ k % W := ⟨_, rfl⟩
  have e : (((ext f n (k + 1) : Nat) : Int) * 4294967296 + ((f k : Nat) : Int)) / 2 ^ s % 4294967296 = (t : Int) := by
    have h1 := shr_digit X s k hs
    rw [hx0, hx1] at h1
    rw [ht, ← h1, ← two_pow_cast]
    have e1 : ((ext f n (k + 1) : Nat) : Int) * 4294967296 + ((f k : Nat) : Int) = ((f k + W * ext f n (k + 1) : Nat) : Int) := by rw [W_eq]; omega
    rw [e1, ← Int.natCast_ediv, W_eq]
    omega
  rw [e]
  have hrow' : Row (wr.drewN q) w.heap.size n h := hrow.drewN q
  have hbel' : Below w.heap.size w (wr.drewN q) := ⟨hbel.os, hbel.tape, hbel.output, hbel.size, hbel.block⟩
  refine ⟨k + 1, up h k t, by omega, by rw [show ((k + 1 : Nat) : Int) = (k : Int) + 1 from by omega], hrow'.set _ _, ?_, hbel'.setCell (Nat.le_refl _) _⟩
  intro j hj
  by_cases g : j = k
  · rw [g, up_at, ht]
  · rw [up_far _ _ g]; exact hd j (by omega)

set_option maxRecDepth 100000 in
set_option maxHeartbeats 1000000 in
theorem shr_any (A : Option Addr) (n ca s : Nat) (f : Nat → Nat) (w : World) (hn : n ≤ 1000000) (hs : s < 32) (hA : Dg w A n f) (hf : ∀ i, i < n → f i < W) :
    Calls Try.prog 121 #[.slice A n ca, .int .i64 (s : Int)] w (RetD (V f n / 2 ^ s) w) := by
  have hmk := make_row n (by omega)
  have HF := Lib.hid hf
  clear hf
  go_enter Try.func121, Try.ntmps121
  go_wp2_with fail
  clear hmk
  go_loopw [13] (fun i wr => ShrRel w n s (V f n) i wr) (fun i _ => n - (intOf i).toNat)
  case atStart => exact shrrel_start w n s _
  case round =>
    obtain ⟨k, h, hk, rfl, hrow, hd, hbel⟩ := hrel
    have HD := Lib.hid hd
    clear hd
    by_cases hlt : k < n
    · have hA1 : Dg wr A n f := hA.keep hbel
      have hAA := hA1
      obtain ⟨b, off, rfl, hb, hcells⟩ := hA1 (by omega)
      have hc1 := hcells k hlt
      have hfk : f k < 4294967296 := HF.out k hlt
      have hfk1 := ext_lt HF.out (k + 1)
      have hcell := hrow.cell hlt
      have hfr := hrow.frozen k
      have hkn : (k : Int) < (n : Int) := by omega
      clear hcells
      go_wp2_with fail
      have hwr : IntKind.i64.wrap ((k : Int) + 1) = (k : Int) + 1 := IntWalk.i64_in _ (by omega)
      have hor : bits BinOp.or IntKind.u64 (((ext f n (k + 1) : Nat) : Int) * 4294967296) ((f k : Nat) : Int) = ((ext f n (k + 1) : Nat) : Int) * 4294967296 + ((f k : Nat) : Int) := by
        rw [u64_or _ _ (by omega) (by omega) (by omega) (by omega), nat_join 32 _ _ (by omega) (by omega)]
        omega
      have hk1 : ((k : Int) + 1).toNat = k + 1 := by omega
      go_quiet ((go_at_call 108; exact Calls.quiet_of_same ((at_any _ _ _ f _ _ (by omega) (by omega) (by omega) (Dg.drewN hAA _)).mono fun _ _ hh => ⟨hh.1, hh.2.symm⟩)))
      clear hwr hk1 hor
      go_wp2_with fail
      exact ⟨shrrel_step hs hlt HF.out rfl hrow HD.out hbel rfl rfl rfl, by simp [intOf]; omega⟩
    · have hke : k = n := by omega
      have HR := Lib.hid (hrow.dg (Nat.le_refl _))
      have HE : Hid (V h n = V f n / 2 ^ s ∧ ∀ i, i < n → h i < W) := by
        subst hke
        constructor
        · rw [V_congr HD.out, V_digits]
          exact Nat.mod_eq_of_lt (Nat.lt_of_le_of_lt (Nat.div_le_self _ _) (V_lt HF.out))
        · intro i hi
          rw [HD.out i hi]; exact Nat.mod_lt _ W_pos
      clear hke HD
      go_wp2_with ((with_reducible refine (trim_any _ _ _ h _ (Nat.le_refl _) (by omega) HR.out).mono ?_); rintro e w' ⟨q, rfl, hq, hN, hQ, rfl⟩)
      go_ret
      refine ⟨_, rfl, ⟨_, q, _, h, rfl, by omega, fun i hi => HE.out.2 i (by omega), hN, hQ.trans HE.out.1, ?_, hrow.tt _⟩, hbel⟩
      intro h0
      obtain ⟨b, off, e1, e2, e3⟩ := HR.out (by omega)
      exact ⟨b, off, e1, e2, fun i hi => e3 i (by omega)⟩

end Go.Proofs.Ytfhmhkbjcccejaa
