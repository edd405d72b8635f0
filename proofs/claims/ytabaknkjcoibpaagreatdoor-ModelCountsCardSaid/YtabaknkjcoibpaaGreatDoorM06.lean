/- Division of digits in memory. The greatest common divisor of digits in memory, where one of both numbers has at most two digits. -/
import Derived.Test.YtabaknkjcoibpaaGreatDoorM05

namespace Go.Proofs.YtabaknkjcoibpaaGreatDoor
open Go.RowKit

/-- What is left and what has been found, from digit k on. -/
def DRel (w : World) (n b : Nat) (f : Nat → Nat) (rest i : Value) (wr : World) : Prop :=
  ∃ (k r : Nat) (h : Nat → Nat), k ≤ n ∧ i = .int .i64 ((k : Int) - 1) ∧ rest = .int .u32 (r : Int) ∧ r < b ∧ Row wr w.heap.size n h ∧ (∀ j, k ≤ j → j < n → h j < W) ∧
    V (sh f k) (n - k) = V (sh h k) (n - k) * b + r ∧ Below w.heap.size w wr

theorem drel_start (w : World) (n b : Nat) (f : Nat → Nat) (hb : 0 < b) {a : Int} (ha : a = (n : Int) - 1) : DRel w n b f (.int .u32 0) (.int .i64 a) (w.alloc (.cells (madeCells #[.int .u32 0] n) 193)) :=
  ⟨n, 0, fun _ => 0, Nat.le_refl _, by rw [ha], rfl, hb, Row.new w n, fun j _ _ => W_pos, by simp [Nat.sub_self, V_zero], (Below.refl _ _).alloc (Nat.le_refl _) _⟩

theorem div_digit (r x b : Nat) (hr : r < b) (hx : x < 4294967296) : ((r : Int) * 4294967296 + (x : Int)) / (b : Int) = (((r * W + x) / b : Nat) : Int) ∧ ((r : Int) * 4294967296 + (x : Int)) % (b : Int) = (((r * W + x) % b : Nat) : Int) ∧ (r * W + x) / b < W := by
  have e : (r : Int) * 4294967296 + (x : Int) = ((r * W + x : Nat) : Int) := by rw [W_eq]; omega
  refine ⟨by rw [e, Int.natCast_ediv], by rw [e, Int.natCast_emod], ?_⟩
  rw [Nat.div_lt_iff_lt_mul (by omega)]
  have h := Nat.mul_le_mul_right W (show r + 1 ≤ b from hr)
  rw [Nat.add_mul, Nat.one_mul, Nat.mul_comm b W] at h
  have hx' : x < W := hx
  omega

theorem drel_step {w wr wx w2 : World} {n b j r : Nat} {f h : Nat → Nat} (hj : j < n) (hr : r < b) (hf : f j < 4294967296) (hrow : Row wr w.heap.size n h) (hW : ∀ i, j + 1 ≤ i → i < n → h i < W)
    (hv : V (sh f (j + 1)) (n - (j + 1)) = V (sh h (j + 1)) (n - (j + 1)) * b + r) (hbel : Below w.heap.size w wr) (hd : Drn wr wx) {a x y : Int} {i v : Value}
    (hx : x = ((r : Int) * 4294967296 + ((f j : Nat) : Int)) / (b : Int)) (hy : y = ((r : Int) * 4294967296 + ((f j : Nat) : Int)) % (b : Int)) (ha : a = (j : Int) - 1) (hi : i = .int .i64 a) (hb : v = .int .u32 y)
    (hw : w2 = wx.setCell ⟨w.heap.size, j, none⟩ (.int .u32 x)) : DRel w n b f v i w2 := by
  subst ha hi hb hw
  obtain ⟨e1, e2, e3⟩ := div_digit r (f j) b hr hf
  rw [e1] at hx
  rw [e2] at hy
  subst hx hy
  refine ⟨j, (r * W + f j) % b, up h j ((r * W + f j) / b), by omega, rfl, rfl, Nat.mod_lt _ (by omega), (hd.row hrow).set _ _, ?_, ?_, (hbel.trans (hd.below _)).setCell (Nat.le_refl _) _⟩
  · intro i h1 h2
    by_cases e : i = j
    · rw [e, up_at]; exact e3
    · rw [up_far _ _ e]; exact hW i (by omega) h2
  · rw [show n - j = (n - (j + 1)) + 1 from by omega, V_sh_head, V_sh_head, up_at, hv]
    have e : V (sh (up h j ((r * W + f j) / b)) (j + 1)) (n - (j + 1)) = V (sh h (j + 1)) (n - (j + 1)) := V_congr fun i hi => by unfold sh; exact up_far _ _ (by omega)
    rw [e]
    have hdm := Nat.div_add_mod (r * W + f j) b
    rw [Nat.add_mul, Nat.mul_add, Nat.mul_assoc, Nat.mul_comm W r]
    rw [Nat.mul_comm b] at hdm
    omega

set_option maxRecDepth 100000 in
set_option maxHeartbeats 2000000 in
theorem divDigit_any (A : Option Addr) (n ca : Nat) (f : Nat → Nat) (b : Nat) (w : World) (hn : n ≤ 1000000) (hA : Dg w A n f) (hf : ∀ i, i < n → f i < W) (hb0 : 0 < b) (hb : b < 4294967296) :
    Calls Tryz.prog 281 #[.slice A n ca, .int .u32 (b : Int)] w (RetDiv (V f n) b w) := by
  have hmk := make_row n (by omega)
  have HF := Lib.hid hf
  clear hf
  go_enter Tryz.func281, Tryz.ntmps281
  go_wp2_with fail
  clear hmk
  go_loopw [7, 8] (fun r i wr => DRel w n b f r i wr) (fun _ i _ => (intOf i + 1).toNat)
  case atStart => exact drel_start w n b f hb0 rfl
  case round =>
    obtain ⟨k, r, h, hk, rfl, rfl, hr, hrow, hW, hv, hbel⟩ := hrel
    have HW := Lib.hid hW
    have HV := Lib.hid hv
    clear hW hv
    rcases Nat.eq_zero_or_pos k with h0 | h0
    · subst h0
      have HD := Lib.hid (hrow.dg (Nat.le_refl _))
      have HE : Hid (V h n = V f n / b ∧ r = V f n % b) := by
        have h1 := HV.out
        have es : ∀ z : Nat → Nat, sh z 0 = z := fun z => by funext i; unfold sh; rw [Nat.zero_add]
        rw [es, es, Nat.sub_zero] at h1
        have := quotient_of (U := V f n) (D := b) (g := V h n) (by rw [Nat.add_mul, Nat.one_mul]; omega) (by omega)
        exact ⟨this.1.symm, by rw [this.2]; omega⟩
      have hr64 : r < 4294967296 := by omega
      clear HV
      go_wp2_with ((with_reducible refine (trim_any _ n n h _ (Nat.le_refl _) (by omega) HD.out).mono ?_); rintro e w' ⟨q, rfl, hq, hN, hQ, rfl⟩; (have HN := Lib.hid hN); (have HQ := Lib.hid hQ); clear hN hQ)
      refine (word_any r _ (by omega)).mono ?_
      rintro e w2 ⟨v, rfl, hvd, hb2⟩
      go_wp2_with fail
      go_ret2
      exact ⟨_, _, rfl, ⟨_, q, _, h, rfl, hq, fun i hi => HW.out i (Nat.zero_le _) (by omega), HN.out, HQ.out.trans HE.out.1, (HD.out.keep hb2).sub hq, (hrow.tt _).keep hb2⟩, by rw [← HE.out.2]; exact hvd, hbel.trans (hb2.mono hbel.size)⟩
    · obtain ⟨j, rfl⟩ : ∃ j, k = j + 1 := ⟨k - 1, by omega⟩
      have ej : (((j + 1 : Nat) : Int) - 1) = (j : Int) := by omega
      rw [ej]
      clear ej h0
      have hj : j < n := by omega
      obtain ⟨bb, off, rfl, hbb, hcells⟩ := (hA.keep hbel) (by omega)
      have hc1 := hcells j hj
      have hfj : f j < 4294967296 := HF.out j hj
      have hcell := hrow.cell hj
      have hfr := hrow.frozen j
      clear hcells
      go_wp2_with fail
      refine (div32_any (r : Int) ((f j : Nat) : Int) (b : Int) wr (by omega) (by omega) (by omega) (by omega) (by omega) (by omega) (by omega)).mono ?_
      rintro e wx ⟨rfl, hdr⟩
      have hcell2 := (hdr.row hrow).cell hj
      have hfr2 := (hdr.row hrow).frozen j
      have HDR := Lib.hid hdr
      clear hdr
      go_wp2_with fail
      exact ⟨drel_step hj hr hfj hrow HW.out HV.out hbel HDR.out rfl rfl rfl rfl rfl rfl, by simp [intOf]⟩

/-- exact.wordDivisor. -/
theorem wordDiv_any (a b : Nat) (w : World) (ha : a < 18446744073709551616) (hb : b < 18446744073709551616) :
    Calls Tryz.prog 268 #[.int .u64 (a : Int), .int .u64 (b : Int)] w fun e w' => e = .returned (.int .u64 ((Nat.gcd a b : Nat) : Int)) ∧ Drn w w' := by
  have HA := Lib.hid ha
  have HB := Lib.hid hb
  clear ha hb
  go_enter Tryz.func268, Tryz.ntmps268
  go_wp2_with fail
  go_loopw [0, 1] (fun s t wr => ∃ x y : Nat, s = .int .u64 (x : Int) ∧ t = .int .u64 (y : Int) ∧ Hid (Nat.gcd x y = Nat.gcd a b) ∧ Drn w wr) (fun _ t _ => (intOf t).toNat)
  case atStart => exact ⟨a, b, rfl, rfl, rfl, Drn.refl w⟩
  case round =>
    obtain ⟨x, y, rfl, rfl, hg, hd⟩ := hrel
    rcases Nat.eq_zero_or_pos y with h0 | h0
    · subst h0
      have HG : Hid (Nat.gcd a b = x) := by rw [← hg.out, Nat.gcd_zero_right]; rfl
      go_wp2_with fail
      go_ret
      exact ⟨by rw [HG.out]; rfl, hd⟩
    · have hy0 : ((y : Int) != 0) = true := by rw [bne_iff_ne]; omega
      have hy1 : 0 < (y : Int) := by omega
      have hlt := Nat.mod_lt x h0
      go_wp2_with fail
      go_quiet (fail)
      go_wp2_with fail
      refine ⟨⟨y, x % y, rfl, by rw [Int.natCast_emod], ?_, hd.more _⟩, ?_⟩
      · show Nat.gcd y (x % y) = Nat.gcd a b
        rw [← hg.out, Nat.gcd_comm y (x % y), ← Nat.gcd_rec y x, Nat.gcd_comm]
      · simp [intOf]; omega

set_option maxRecDepth 100000 in
set_option maxHeartbeats 2000000 in
theorem divide_lt (A B : Option Addr) (n m ca cb : Nat) (f g : Nat → Nat) (w : World) (hn : n ≤ 999999) (hna : n ≤ ca) (hA : Dg w A n f) (hB : Dg w B m g)
    (hf : ∀ i, i < n → f i < W) (hg : ∀ i, i < m → g i < W) (hfn : Nrm f n) (hgn : Nrm g m) (hTA : TT w A n) (hlt : V f n < V g m) :
    Calls Tryz.prog 266 #[.slice A n ca, .slice B m cb] w (RetDiv (V f n) (V g m) w) := by
  have HC := Lib.hid (comp_any A B n m ca cb f g w (by omega) hA hB hf hg hfn hgn)
  have HCI : Hid (cmpI (V f n) (V g m) = -1) := cmpI_lt (by omega)
  have HF := Lib.hid hf
  have HN := Lib.hid hfn
  have HL := Lib.hid hlt
  clear hf hg hfn hgn hlt
  rw [HCI.out] at HC
  go_enter Tryz.func266, Tryz.ntmps266
  go_wp2_with ((with_reducible refine HC.out.mono ?_); rintro e w1 ⟨rfl, hd⟩)
  go_ret2
  refine ⟨_, _, rfl, ?_, ?_, hd.below _⟩
  · rw [Nat.div_eq_of_lt HL.out]
    exact ⟨none, 0, 0, fun _ => 0, rfl, Nat.le_refl _, fun i hi => by omega, Or.inl rfl, rfl, fun h => by omega, fun h => by omega⟩
  · rw [Nat.mod_eq_of_lt HL.out]
    exact ⟨A, n, ca, f, rfl, hna, HF.out, HN.out, rfl, hd.dg hA, hd.tt hTA⟩

theorem cmpI_ge {x y : Int} (h : ¬ x < y) : ∃ r : Int, cmpI x y = r ∧ 0 ≤ r := by
  refine ⟨cmpI x y, rfl, ?_⟩
  unfold cmpI
  rw [if_neg h]
  split <;> omega

theorem V_lt_two {f : Nat → Nat} {n : Nat} (hf : ∀ i, i < n → f i < W) (hn : n ≤ 2) : V f n < 18446744073709551616 := by
  have h := V_lt hf
  have h2 := pow_le hn
  have e : W ^ 2 = 18446744073709551616 := by rw [W_eq]
  omega

theorem V_one (f : Nat → Nat) : V f 1 = f 0 := by rw [V_succ, V_zero, Nat.pow_zero]; omega

set_option maxRecDepth 100000 in
set_option maxHeartbeats 2000000 in
theorem divide_two (A B : Option Addr) (n m ca cb : Nat) (f g : Nat → Nat) (w : World) (hn : n ≤ 2) (hA : Dg w A n f) (hB : Dg w B m g)
    (hf : ∀ i, i < n → f i < W) (hg : ∀ i, i < m → g i < W) (hfn : Nrm f n) (hgn : Nrm g m) (hge : ¬ V f n < V g m) (hm : 0 < V g m) :
    Calls Tryz.prog 266 #[.slice A n ca, .slice B m cb] w (RetDiv (V f n) (V g m) w) := by
  have hm2 : m ≤ 2 := len_of_lt hgn (by have := V_lt hf; have := pow_le hn; omega)
  obtain ⟨r, hr, hr0⟩ := cmpI_ge (x := ((V f n : Nat) : Int)) (y := ((V g m : Nat) : Int)) (by omega)
  have HC := Lib.hid (comp_any A B n m ca cb f g w (by omega) hA hB hf hg hfn hgn)
  rw [hr] at HC
  have bx := V_lt_two hf hn
  have by' := V_lt_two hg hm2
  have HF := Lib.hid hf
  have HG := Lib.hid hg
  generalize hX : V f n = X at *
  generalize hY : V g m = Y at *
  have HA : Hid (∀ wx, Below w.heap.size w wx → Calls Tryz.prog 219 #[.slice A n ca] wx fun e w' => e = .returned (.int .u64 ((X : Nat) : Int)) ∧ wx = w') := fun wx hx => by rw [← hX]; exact wordm_any A n ca f wx hn (hA.keep hx) HF.out
  have HB : Hid (∀ wx, Below w.heap.size w wx → Calls Tryz.prog 219 #[.slice B m cb] wx fun e w' => e = .returned (.int .u64 ((Y : Nat) : Int)) ∧ wx = w') := fun wx hx => by rw [← hY]; exact wordm_any B m cb g wx hm2 (hB.keep hx) HG.out
  have hq64 : X / Y < 18446744073709551616 := Nat.lt_of_le_of_lt (Nat.div_le_self _ _) bx
  have hr64 : X % Y < 18446744073709551616 := Nat.lt_of_le_of_lt (Nat.mod_le _ _) bx
  have HQ : Hid (∀ wx, Calls Tryz.prog 218 #[.int .u64 ((X : Int) / (Y : Int))] wx (RetD (X / Y) wx)) := fun wx => by rw [← Int.natCast_ediv]; exact word_any _ wx hq64
  have HR : Hid (∀ wx, Calls Tryz.prog 218 #[.int .u64 ((X : Int) % (Y : Int))] wx (RetD (X % Y) wx)) := fun wx => by rw [← Int.natCast_emod]; exact word_any _ wx hr64
  have hq0 : 0 ≤ (X : Int) / (Y : Int) := by rw [← Int.natCast_ediv]; exact Int.natCast_nonneg _
  have hr0' : 0 ≤ (X : Int) % (Y : Int) := by rw [← Int.natCast_emod]; exact Int.natCast_nonneg _
  clear hf hg hfn hgn hge bx by' hX hY hr hA hB
  have hn' : (n : Int) ≤ 2 := by omega
  have hr1 : decide (r < 0) = false := by simp; omega
  have hY0 : (Y : Int) ≠ 0 := by omega
  go_enter Tryz.func266, Tryz.ntmps266
  go_wp2_with ((with_reducible refine HC.out.mono ?_); rintro e w1 ⟨rfl, hd⟩)
  have B1 := Lib.hid (hd.below w.heap.size)
  clear hd
  (with_reducible refine (HA.out _ B1.out).mono ?_)
  rintro e w' ⟨rfl, rfl⟩
  go_wp2_with fail
  (with_reducible refine (HB.out _ B1.out).mono ?_)
  rintro e w' ⟨rfl, rfl⟩
  go_wp2_with fail
  (with_reducible refine (HQ.out _).mono ?_)
  rintro e w2 ⟨vq, rfl, hvq, hb2⟩
  have B2 := Lib.hid (B1.out.trans (hb2.mono B1.out.size))
  go_wp2_with fail
  (with_reducible refine (HA.out _ B2.out).mono ?_)
  rintro e w' ⟨rfl, rfl⟩
  go_wp2_with fail
  (with_reducible refine (HB.out _ B2.out).mono ?_)
  rintro e w' ⟨rfl, rfl⟩
  go_wp2_with fail
  (with_reducible refine (HR.out _).mono ?_)
  rintro e w3 ⟨vr, rfl, hvr, hb3⟩
  go_wp2_with fail
  go_ret2
  exact ⟨vq, vr, rfl, hvq.keep hb3, hvr, B2.out.trans (hb3.mono B2.out.size)⟩

set_option maxRecDepth 100000 in
set_option maxHeartbeats 2000000 in
theorem divide_one (A B : Option Addr) (n ca cb : Nat) (f g : Nat → Nat) (w : World) (hn : n ≤ 999999) (hn2 : 2 < n) (hA : Dg w A n f) (hB : Dg w B 1 g)
    (hf : ∀ i, i < n → f i < W) (hg : ∀ i, i < 1 → g i < W) (hfn : Nrm f n) (hgn : Nrm g 1) (hge : ¬ V f n < V g 1) (hm : 0 < V g 1) :
    Calls Tryz.prog 266 #[.slice A n ca, .slice B 1 cb] w (RetDiv (V f n) (V g 1) w) := by
  obtain ⟨r, hr, hr0⟩ := cmpI_ge (x := ((V f n : Nat) : Int)) (y := ((V g 1 : Nat) : Int)) (by omega)
  have HC := Lib.hid (comp_any A B n 1 ca cb f g w (by omega) hA hB hf hg hfn hgn)
  rw [hr] at HC
  obtain ⟨b, off, rfl, hb, hcs⟩ := hB (by omega)
  have hc0 := hcs 0 (by omega)
  rw [Nat.add_zero] at hc0
  have hg0 : g 0 < 4294967296 := hg 0 (by omega)
  rw [V_one] at hm
  have HR : Hid (∀ wx, Drn w wx → Calls Tryz.prog 281 #[.slice A n ca, .int .u32 ((g 0 : Nat) : Int)] wx (RetDiv (V f n) (V g 1) wx)) := fun wx hx => by
    rw [V_one]; exact divDigit_any A n ca f (g 0) wx (by omega) (hx.dg hA) hf hm hg0
  have HC0 := Lib.hid hc0
  clear hf hg hfn hgn hge hcs hr hc0
  have hn' : ¬ (n : Int) ≤ 2 := by omega
  have hr1 : decide (r < 0) = false := by simp; omega
  go_enter Tryz.func266, Tryz.ntmps266
  go_wp2_with ((with_reducible refine HC.out.mono ?_); rintro e w1 ⟨rfl, hd⟩; (have hcx := (hd.cell _).trans HC0.out); (have HD := Lib.hid hd); clear hd)
  (with_reducible refine (HR.out _ HD.out).mono ?_)
  rintro e w2 ⟨vq, vr, rfl, h1, h2, h3⟩
  go_wp2_with fail
  go_ret2
  exact ⟨vq, vr, rfl, h1, h2, (HD.out.below _).trans (h3.mono (HD.out.below w.heap.size).size)⟩

set_option maxRecDepth 100000 in
set_option maxHeartbeats 2000000 in
theorem divide_long (A : Option Addr) (n m ca b off cb : Nat) (f g : Nat → Nat) (w : World) (hn : n ≤ 999999) (hn2 : 2 < n) (hm2 : 2 ≤ m) (hA : Dg w A n f) (hb : b < w.heap.size)
    (hcs : ∀ i, i < m → w.cell? ⟨b, off + i, none⟩ = some (.int .u32 ((g i : Nat) : Int))) (hf : ∀ i, i < n → f i < W) (hg : ∀ i, i < m → g i < W) (hfn : Nrm f n) (hgn : Nrm g m) (hge : ¬ V f n < V g m) :
    Calls Tryz.prog 266 #[.slice A n ca, .slice (some ⟨b, off, none⟩) m cb] w (RetDiv (V f n) (V g m) w) := by
  obtain ⟨r, hr, hr0⟩ := cmpI_ge (x := ((V f n : Nat) : Int)) (y := ((V g m : Nat) : Int)) (by omega)
  have hmn : m ≤ n := by
    rcases Nat.lt_or_ge n m with c | c
    · exact absurd (V_lt_of_len hf hgn c) hge
    · exact c
  have htop : g (m - 1) ≠ 0 := by
    rcases hgn with h | h
    · omega
    · exact h
  have HC := Lib.hid (comp_any A _ n m ca cb f g w (by omega) hA (fun _ => ⟨b, off, rfl, hb, hcs⟩) hf hg hfn hgn)
  rw [hr] at HC
  have HR : Hid (∀ wx, Drn w wx → Calls Tryz.prog 282 #[.slice A n ca, .slice (some ⟨b, off, none⟩) m cb] wx (RetDiv (V f n) (V g m) wx)) := fun wx hx =>
    long_any A n ca b off m cb f g wx hn hm2 hmn (hx.dg hA) (by rw [hx.size]; exact hb) (fun i hi => (hx.cell _).trans (hcs i hi)) hf hg htop
  clear hf hg hfn hgn hge hcs hr htop
  have hn' : ¬ (n : Int) ≤ 2 := by omega
  have hr1 : decide (r < 0) = false := by simp; omega
  have hm1 : ((m : Int) == 1) = false := by rw [beq_eq_false_iff_ne]; omega
  go_enter Tryz.func266, Tryz.ntmps266
  go_wp2_with ((with_reducible refine HC.out.mono ?_); rintro e w1 ⟨rfl, hd⟩; (have HD := Lib.hid hd); clear hd)
  (with_reducible refine (HR.out _ HD.out).mono ?_)
  rintro e w2 ⟨vq, vr, rfl, h1, h2, h3⟩
  go_wp2_with fail
  go_ret2
  exact ⟨vq, vr, rfl, h1, h2, (HD.out.below _).trans (h3.mono (HD.out.below w.heap.size).size)⟩

/-- exact.digits.divide, for every divisor other than 0. -/
theorem divide_any (A B : Option Addr) (n m ca cb : Nat) (f g : Nat → Nat) (w : World) (hn : n ≤ 999999) (hna : n ≤ ca) (hA : Dg w A n f) (hB : Dg w B m g)
    (hf : ∀ i, i < n → f i < W) (hg : ∀ i, i < m → g i < W) (hfn : Nrm f n) (hgn : Nrm g m) (hTA : TT w A n) (hm : 0 < V g m) :
    Calls Tryz.prog 266 #[.slice A n ca, .slice B m cb] w (RetDiv (V f n) (V g m) w) := by
  by_cases hge : V f n < V g m
  · exact divide_lt A B n m ca cb f g w hn hna hA hB hf hg hfn hgn hTA hge
  · by_cases hn2 : n ≤ 2
    · exact divide_two A B n m ca cb f g w hn2 hA hB hf hg hfn hgn hge hm
    · have hm0 : m ≠ 0 := by rintro rfl; rw [V_zero] at hm; omega
      by_cases hm1 : m = 1
      · subst hm1
        exact divide_one A B n ca cb f g w hn (by omega) hA hB hf hg hfn hgn hge hm
      · obtain ⟨b, off, rfl, hb, hcs⟩ := hB (by omega)
        exact divide_long A n m ca b off cb f g w hn (by omega) (by omega) hA hb hcs hf hg hfn hgn hge

end Go.Proofs.YtabaknkjcoibpaaGreatDoor

namespace Go.Proofs.YtabaknkjcoibpaaGreatDoor
open Go.RowKit

set_option maxRecDepth 100000 in
set_option maxHeartbeats 2000000 in
theorem gcd_ge (A B : Option Addr) (n m ca cb : Nat) (f g : Nat → Nat) (w : World) (hn : n ≤ 999999) (hm : m ≤ 999999) (hna : n ≤ ca) (_hmb : m ≤ cb) (hA : Dg w A n f) (hB : Dg w B m g)
    (hf : ∀ i, i < n → f i < W) (hg : ∀ i, i < m → g i < W) (hfn : Nrm f n) (hgn : Nrm g m) (hTA : TT w A n) (_hTB : TT w B m) (hcmp : ¬ V f n < V g m) (hs : m ≤ 2) :
    Calls Tryz.prog 240 #[.slice A n ca, .slice B m cb] w (RetD (Nat.gcd (V f n) (V g m)) w) := by
  have HC := Lib.hid (comp_any A B n m ca cb f g w (by omega) hA hB hf hg hfn hgn)
  obtain ⟨r, hr, hr0⟩ := cmpI_ge (x := ((V f n : Nat) : Int)) (y := ((V g m : Nat) : Int)) (by omega)
  rw [hr] at HC
  have hr1 : decide (r < 0) = false := by simp; omega
  clear hr
  have HDV : Hid (0 < V g m → ∀ wx, Drn w wx → Calls Tryz.prog 266 #[.slice A n ca, .slice B m cb] wx (RetDiv (V f n) (V g m) wx)) :=
    fun hp wx hx => divide_any A B n m ca cb f g wx hn hna (hx.dg hA) (hx.dg hB) hf hg hfn hgn (hx.tt hTA) hp
  have HBW : Hid (∀ wx, Below w.heap.size w wx → Calls Tryz.prog 219 #[.slice B m cb] wx fun e w' => e = .returned (.int .u64 ((V g m : Nat) : Int)) ∧ wx = w') := fun wx hx => wordm_any B m cb g wx hs (hB.keep hx) hg
  have HZ : Hid (V g m = 0 ↔ m = 0) := V_zero_iff hgn
  have H64 := Lib.hid (V_lt_two hg hs)
  have HF : Hid (∀ i, i < n → f i < W) := hf
  have HFN : Hid (Nrm f n) := hfn
  clear hf hg hfn hgn hcmp
  have hs' : ¬ (2 : Int) < (m : Int) := by omega
  go_enter Tryz.func240, Tryz.ntmps240
  go_wp2_with ((with_reducible refine HC.out.mono ?_); rintro e w1 ⟨rfl, hd⟩; (have HD := Lib.hid hd); clear hd)
  go_loopw [0, 1] (fun s t wr => s = .slice A n ca ∧ t = .slice B m cb ∧ wr = w1) (fun _ _ _ => 0)
  case atStart => exact ⟨rfl, rfl, rfl⟩
  case round =>
    obtain ⟨rfl, rfl, rfl⟩ := hrel
    rcases Nat.eq_zero_or_pos m with h0 | h0
    · have HG0 : Hid (Nat.gcd (V f n) (V g m) = V f n) := by rw [show V g m = 0 from HZ.out.2 h0, Nat.gcd_zero_right]; rfl
      have HH0 := Lib.hid h0
      have hm0 : ((m : Int) == 0) = true := by rw [beq_iff_eq]; omega
      clear h0
      go_wp2_with fail
      go_ret
      exact ⟨_, rfl, by rw [HG0.out]; exact ⟨A, n, ca, f, rfl, hna, HF.out, HFN.out, rfl, HD.out.dg hA, HD.out.tt hTA⟩, HD.out.below _⟩
    · have hp : 0 < V g m := by
        rcases Nat.eq_zero_or_pos (V g m) with z | z
        · have := HZ.out.1 z; omega
        · exact z
      have hm0 : ((m : Int) == 0) = false := by rw [beq_eq_false_iff_ne]; omega
      have HR := Lib.hid (HDV.out hp _ HD.out)
      have HP := Lib.hid hp
      clear hp h0
      go_wp2_with fail
      (with_reducible refine HR.out.mono ?_)
      rintro e w2 ⟨vq, vr, rfl, h1, h2, h3⟩
      obtain ⟨R, rn, rc, rf, rfl, r1, r2, r3, r4, r5, _⟩ := h2
      have hlt : V rf rn < V g m := by rw [r4]; exact Nat.mod_lt _ HP.out
      have hrn : rn ≤ 2 := by
        have := H64.out
        refine len_of_lt r3 ?_
        have e : W ^ 2 = 18446744073709551616 := by rw [W_eq]
        omega
      have hr64 : V rf rn < 18446744073709551616 := by have := H64.out; omega
      have hb2 := (HD.out.below w.heap.size).trans (h3.mono (HD.out.below w.heap.size).size)
      have HB2 := Lib.hid hb2
      have HW2 := Lib.hid (wordm_any R rn rc rf w2 hrn r5 r2)
      have HG2 := Lib.hid (fun wx => wordDiv_any (V g m) (V rf rn) wx H64.out hr64)
      have hgl : Nat.gcd (V g m) (V rf rn) < 18446744073709551616 := Nat.lt_of_le_of_lt (Nat.gcd_le_left _ HP.out) H64.out
      have HW3 := Lib.hid (fun wx => word_any (Nat.gcd (V g m) (V rf rn)) wx hgl)
      have HEQ : Hid (Nat.gcd (V f n) (V g m) = Nat.gcd (V g m) (V rf rn)) := by
        show _ = _
        rw [r4, Nat.gcd_comm (V f n), Nat.gcd_rec, Nat.gcd_comm]
      clear r1 r2 r3 r4 r5 hlt hrn hr64 hb2 hgl h1 h3
      go_wp2_with fail
      (with_reducible refine (HBW.out _ HB2.out).mono ?_)
      rintro e w' ⟨rfl, rfl⟩
      go_wp2_with fail
      (with_reducible refine HW2.out.mono ?_)
      rintro e w' ⟨rfl, rfl⟩
      go_wp2_with fail
      (with_reducible refine (HG2.out _).mono ?_)
      rintro e w3 ⟨rfl, hd3⟩
      have HD3 := Lib.hid hd3
      clear hd3
      go_wp2_with fail
      (with_reducible refine (HW3.out _).mono ?_)
      rintro e w4 ⟨v4, rfl, hv4, hb4⟩
      go_wp2_with fail
      go_ret
      have hb3 := HB2.out.trans (HD3.out.below w.heap.size)
      exact ⟨v4, rfl, by rw [HEQ.out]; exact hv4, hb3.trans (hb4.mono hb3.size)⟩

set_option maxRecDepth 100000 in
set_option maxHeartbeats 2000000 in
theorem gcd_lt (A B : Option Addr) (n m ca cb : Nat) (f g : Nat → Nat) (w : World) (hn : n ≤ 999999) (hm : m ≤ 999999) (_hna : n ≤ ca) (hmb : m ≤ cb) (hA : Dg w A n f) (hB : Dg w B m g)
    (hf : ∀ i, i < n → f i < W) (hg : ∀ i, i < m → g i < W) (hfn : Nrm f n) (hgn : Nrm g m) (_hTA : TT w A n) (hTB : TT w B m) (hcmp : V f n < V g m) (hs : n ≤ 2) :
    Calls Tryz.prog 240 #[.slice A n ca, .slice B m cb] w (RetD (Nat.gcd (V g m) (V f n)) w) := by
  have HC := Lib.hid (comp_any A B n m ca cb f g w (by omega) hA hB hf hg hfn hgn)
  have HCI : Hid (cmpI (V f n) (V g m) = -1) := cmpI_lt (by omega)
  rw [HCI.out] at HC
  clear HCI
  have HDV : Hid (0 < V f n → ∀ wx, Drn w wx → Calls Tryz.prog 266 #[.slice B m cb, .slice A n ca] wx (RetDiv (V g m) (V f n) wx)) :=
    fun hp wx hx => divide_any B A m n cb ca g f wx hm hmb (hx.dg hB) (hx.dg hA) hg hf hgn hfn (hx.tt hTB) hp
  have HBW : Hid (∀ wx, Below w.heap.size w wx → Calls Tryz.prog 219 #[.slice A n ca] wx fun e w' => e = .returned (.int .u64 ((V f n : Nat) : Int)) ∧ wx = w') := fun wx hx => wordm_any A n ca f wx hs (hA.keep hx) hf
  have HZ : Hid (V f n = 0 ↔ n = 0) := V_zero_iff hfn
  have H64 := Lib.hid (V_lt_two hf hs)
  have HF : Hid (∀ i, i < m → g i < W) := hg
  have HFN : Hid (Nrm g m) := hgn
  clear hf hg hfn hgn hcmp
  have hs' : ¬ (2 : Int) < (n : Int) := by omega
  go_enter Tryz.func240, Tryz.ntmps240
  go_wp2_with ((with_reducible refine HC.out.mono ?_); rintro e w1 ⟨rfl, hd⟩; (have HD := Lib.hid hd); clear hd)
  go_loopw [0, 1] (fun s t wr => s = .slice B m cb ∧ t = .slice A n ca ∧ wr = w1) (fun _ _ _ => 0)
  case atStart => exact ⟨rfl, rfl, rfl⟩
  case round =>
    obtain ⟨rfl, rfl, rfl⟩ := hrel
    rcases Nat.eq_zero_or_pos n with h0 | h0
    · have HG0 : Hid (Nat.gcd (V g m) (V f n) = V g m) := by rw [show V f n = 0 from HZ.out.2 h0, Nat.gcd_zero_right]; rfl
      have HH0 := Lib.hid h0
      have hm0 : ((n : Int) == 0) = true := by rw [beq_iff_eq]; omega
      clear h0
      go_wp2_with fail
      go_ret
      exact ⟨_, rfl, by rw [HG0.out]; exact ⟨B, m, cb, g, rfl, hmb, HF.out, HFN.out, rfl, HD.out.dg hB, HD.out.tt hTB⟩, HD.out.below _⟩
    · have hp : 0 < V f n := by
        rcases Nat.eq_zero_or_pos (V f n) with z | z
        · have := HZ.out.1 z; omega
        · exact z
      have hm0 : ((n : Int) == 0) = false := by rw [beq_eq_false_iff_ne]; omega
      have HR := Lib.hid (HDV.out hp _ HD.out)
      have HP := Lib.hid hp
      clear hp h0
      go_wp2_with fail
      (with_reducible refine HR.out.mono ?_)
      rintro e w2 ⟨vq, vr, rfl, h1, h2, h3⟩
      obtain ⟨R, rn, rc, rf, rfl, r1, r2, r3, r4, r5, _⟩ := h2
      have hlt : V rf rn < V f n := by rw [r4]; exact Nat.mod_lt _ HP.out
      have hrn : rn ≤ 2 := by
        have := H64.out
        refine len_of_lt r3 ?_
        have e : W ^ 2 = 18446744073709551616 := by rw [W_eq]
        omega
      have hr64 : V rf rn < 18446744073709551616 := by have := H64.out; omega
      have hb2 := (HD.out.below w.heap.size).trans (h3.mono (HD.out.below w.heap.size).size)
      have HB2 := Lib.hid hb2
      have HW2 := Lib.hid (wordm_any R rn rc rf w2 hrn r5 r2)
      have HG2 := Lib.hid (fun wx => wordDiv_any (V f n) (V rf rn) wx H64.out hr64)
      have hgl : Nat.gcd (V f n) (V rf rn) < 18446744073709551616 := Nat.lt_of_le_of_lt (Nat.gcd_le_left _ HP.out) H64.out
      have HW3 := Lib.hid (fun wx => word_any (Nat.gcd (V f n) (V rf rn)) wx hgl)
      have HEQ : Hid (Nat.gcd (V g m) (V f n) = Nat.gcd (V f n) (V rf rn)) := by
        show _ = _
        rw [r4, Nat.gcd_comm (V g m), Nat.gcd_rec, Nat.gcd_comm]
      clear r1 r2 r3 r4 r5 hlt hrn hr64 hb2 hgl h1 h3
      go_wp2_with fail
      (with_reducible refine (HBW.out _ HB2.out).mono ?_)
      rintro e w' ⟨rfl, rfl⟩
      go_wp2_with fail
      (with_reducible refine HW2.out.mono ?_)
      rintro e w' ⟨rfl, rfl⟩
      go_wp2_with fail
      (with_reducible refine (HG2.out _).mono ?_)
      rintro e w3 ⟨rfl, hd3⟩
      have HD3 := Lib.hid hd3
      clear hd3
      go_wp2_with fail
      (with_reducible refine (HW3.out _).mono ?_)
      rintro e w4 ⟨v4, rfl, hv4, hb4⟩
      go_wp2_with fail
      go_ret
      have hb3 := HB2.out.trans (HD3.out.below w.heap.size)
      exact ⟨v4, rfl, by rw [HEQ.out]; exact hv4, hb3.trans (hb4.mono hb3.size)⟩

end Go.Proofs.YtabaknkjcoibpaaGreatDoor
