/- Division of digits in memory. -/
import Derived.Test.YtmfnpipmbpnfbaaGreatDoorF04
import Derived.Deep.RegionHeld3

set_option maxRecDepth 100000
set_option maxHeartbeats 40000000
namespace Go.Proofs.YtmfnpipmbpnfbaaGreatDoor
open Go.RowKit
def DRel (w : World) (n b : Nat) (f : Nat → Nat) (rest i : Value) (wr : World) : Prop :=
  ∃ (k r : Nat) (h : Nat → Nat), k ≤ n ∧ i = .int .i64 ((k : Int) - 1) ∧ rest = .int .u32 (r : Int) ∧ r < b ∧ Row wr w.heap.size n h ∧ (∀ j, k ≤ j → j < n → h j < W) ∧
    V (sh f k) (n - k) = V (sh h k) (n - k) * b + r ∧ Below w.heap.size w wr
theorem drel_start (w : World) (n b : Nat) (f : Nat → Nat) (hb : 0 < b) {a : Int} (ha : a = (n : Int) - 1) : DRel w n b f (.int .u32 0) (.int .i64 a) (w.alloc (.cells (madeCells #[.int .u32 0] n) 193)) :=
  ⟨n, 0, fun _ => 0, Nat.le_refl _, by rw [ha], rfl, hb, Row.new w n, fun j _ _ => W_pos, by simp [Nat.sub_self, V_zero], (Below.refl _ _).alloc (Nat.le_refl _) _⟩
theorem div_digit (r x b : Nat) (hr : r < b) (hx : x < 4294967296) : ((r : Int) * 4294967296 + (x : Int)) / (b : Int) = (((r * W + x) / b : Nat) : Int) ∧ ((r : Int) * 4294967296 + (x : Int)) % (b : Int) = (((r * W + x) % b : Nat) : Int) ∧ (r * W + x) / b < W := by
  have e : (r : Int) * 4294967296 + (x : Int) = ((r * W + x : Nat) : Int) := by rw [W_eq]; omega
  refine ⟨by rw [e, Int.natCast_ediv], by rw [e, Int.natCast_emod], ?_⟩
  rw [Nat.div_lt_iff_lt_mul (by omega)]
  have h := Nat.mul_le_mul_right W (show r + 1 ≤ b from hr)
  rw [Nat.add_mul, Nat.one_mul, Nat.mul_comm b W] at h
  have hx' : x < W := hx
  omega
theorem drel_step {w wr wx w2 : World} {n b j r : Nat} {f h : Nat → Nat} (hj : j < n) (hr : r < b) (hf : f j < 4294967296) (hrow : Row wr w.heap.size n h) (hW : ∀ i, j + 1 ≤ i → i < n → h i < W)
    (hv : V (sh f (j + 1)) (n - (j + 1)) = V (sh h (j + 1)) (n - (j + 1)) * b + r) (hbel : Below w.heap.size w wr) (hd : Drn wr wx) {a x y : Int} {i v : Value}
    (hx : x = ((r : Int) * 4294967296 + ((f j : Nat) : Int)) / (b : Int)) (hy : y = ((r : Int) * 4294967296 + ((f j : Nat) : Int)) % (b : Int)) (ha : a = (j : Int) - 1) (hi : i = .int .i64 a) (hb : v = .int .u32 y)
    (hw : w2 = wx.setCell ⟨w.heap.size, j, none⟩ (.int .u32 x)) : DRel w n b f v i w2 := by
  subst ha hi hb hw
  obtain ⟨e1, e2, e3⟩ := div_digit r (f j) b hr hf
  rw [e1] at hx
  rw [e2] at hy
  subst hx hy
  refine ⟨j, (r * W + f j) % b, up h j ((r * W + f j) / b), by omega, rfl, rfl, Nat.mod_lt _ (by omega), (hd.row hrow).set _ _, ?_, ?_, (hbel.trans (hd.below _)).setCell (Nat.le_refl _) _⟩
  · intro i h1 h2
    by_cases e : i = j
    · rw [e, up_at]; exact e3
    · rw [up_far _ _ e]; exact hW i (by omega) h2
  · rw [show n - j = (n - (j + 1)) + 1 from by omega, V_sh_head, V_sh_head, up_at, hv]
    have e : V (sh (up h j ((r * W + f j) / b)) (j + 1)) (n - (j + 1)) = V (sh h (j + 1)) (n - (j + 1)) := V_congr fun i hi => by unfold sh; exact up_far _ _ (by omega)
    rw [e]
    have hdm := Nat.div_add_mod (r * W + f j) b
    rw [Nat.add_mul, Nat.mul_add, Nat.mul_assoc, Nat.mul_comm W r]
    rw [Nat.mul_comm b] at hdm
    omega
theorem divDigit_any (A : Option Addr) (n ca : Nat) (f : Nat → Nat) (b : Nat) (w : World) (hn : n ≤ 1000000) (hA : Dg w A n f) (hf : ∀ i, i < n → f i < W) (hb0 : 0 < b) (hb : b < 4294967296) :
    Calls Tryz.prog 281 #[.slice A n ca, .int .u32 (b : Int)] w (RetDiv (V f n) b w) := by
  have hmk := make_row n (by omega)
  have HF := Lib.hid hf
  clear hf
  go_enter Tryz.func281, Tryz.ntmps281
  go_wp2_with fail
  clear hmk
  go_loopw [7, 8] (fun r i wr => DRel w n b f r i wr) (fun _ i _ => (intOf i + 1).toNat)
  case atStart => exact drel_start w n b f hb0 rfl
  case round =>
    obtain ⟨k, r, h, hk, rfl, rfl, hr, hrow, hW, hv, hbel⟩ := hrel
    have HW := Lib.hid hW
    have HV := Lib.hid hv
    clear hW hv
    rcases Nat.eq_zero_or_pos k with h0 | h0
    · subst h0
      have HD := Lib.hid (hrow.dg (Nat.le_refl _))
      have HE : Hid (V h n = V f n / b ∧ r = V f n % b) := by
        have h1 := HV.out
        have es : ∀ z : Nat → Nat, sh z 0 = z := fun z => by funext i; unfold sh; rw [Nat.zero_add]
        rw [es, es, Nat.sub_zero] at h1
        have := quotient_of (U := V f n) (D := b) (g := V h n) (by rw [Nat.add_mul, Nat.one_mul]; omega) (by omega)
        exact ⟨this.1.symm, by rw [this.2]; omega⟩
      have hr64 : r < 4294967296 := by omega
      clear HV
      go_wp2_with ((with_reducible refine (trim_any _ n n h _ (Nat.le_refl _) (by omega) HD.out).mono ?_); rintro e w' ⟨q, rfl, hq, hN, hQ, rfl⟩; (have HN := Lib.hid hN); (have HQ := Lib.hid hQ); clear hN hQ)
      refine (word_any r _ (by omega)).mono ?_
      rintro e w2 ⟨v, rfl, hvd, hb2⟩
      go_wp2_with fail
      go_ret2
      exact ⟨_, _, rfl, ⟨_, q, _, h, rfl, hq, fun i hi => HW.out i (Nat.zero_le _) (by omega), HN.out, HQ.out.trans HE.out.1, (HD.out.keep hb2).sub hq, (hrow.tt _).keep hb2⟩, by rw [← HE.out.2]; exact hvd, hbel.trans (hb2.mono hbel.size)⟩
    · obtain ⟨j, rfl⟩ : ∃ j, k = j + 1 := ⟨k - 1, by omega⟩
      have ej : (((j + 1 : Nat) : Int) - 1) = (j : Int) := by omega
      rw [ej]
      clear ej h0
      have hj : j < n := by omega
      obtain ⟨bb, off, rfl, hbb, hcells⟩ := (hA.keep hbel) (by omega)
      have hc1 := hcells j hj
      have hfj : f j < 4294967296 := HF.out j hj
      have hcell := hrow.cell hj
      have hfr := hrow.frozen j
      clear hcells
      go_wp2_with fail
      refine (div32_any (r : Int) ((f j : Nat) : Int) (b : Int) wr (by omega) (by omega) (by omega) (by omega) (by omega) (by omega) (by omega)).mono ?_
      rintro e wx ⟨rfl, hdr⟩
      have hcell2 := (hdr.row hrow).cell hj
      have hfr2 := (hdr.row hrow).frozen j
      have HDR := Lib.hid hdr
      clear hdr
      go_wp2_with fail
      exact ⟨drel_step hj hr hfj hrow HW.out HV.out hbel HDR.out rfl rfl rfl rfl rfl rfl, by simp [intOf]⟩
theorem wordDiv_any (a b : Nat) (w : World) (ha : a < 18446744073709551616) (hb : b < 18446744073709551616) :
    Calls Tryz.prog 268 #[.int .u64 (a : Int), .int .u64 (b : Int)] w fun e w' => e = .returned (.int .u64 ((Nat.gcd a b : Nat) : Int)) ∧ Drn w w' := by
  have HA := Lib.hid ha
  have HB := Lib.hid hb
  clear ha hb
  go_enter Tryz.func268, Tryz.ntmps268
  go_wp2_with fail
  go_loopw [0, 1] (fun s t wr => ∃ x y : Nat, s = .int .u64 (x : Int) ∧ t = .int .u64 (y : Int) ∧ Hid (Nat.gcd x y = Nat.gcd a b) ∧ Drn w wr) (fun _ t _ => (intOf t).toNat)
  case atStart => exact ⟨a, b, rfl, rfl, rfl, Drn.refl w⟩
  case round =>
    obtain ⟨x, y, rfl, rfl, hg, hd⟩ := hrel
    rcases Nat.eq_zero_or_pos y with h0 | h0
    · subst h0
      have HG : Hid (Nat.gcd a b = x) := by rw [← hg.out, Nat.gcd_zero_right]; rfl
      go_wp2_with fail
      go_ret
      exact ⟨by rw [HG.out]; rfl, hd⟩
    · have hy0 : ((y : Int) != 0) = true := by rw [bne_iff_ne]; omega
      have hy1 : 0 < (y : Int) := by omega
      have hlt := Nat.mod_lt x h0
      go_wp2_with fail
      go_quiet (fail)
      go_wp2_with fail
      refine ⟨⟨y, x % y, rfl, by rw [Int.natCast_emod], ?_, hd.more _⟩, ?_⟩
      · show Nat.gcd y (x % y) = Nat.gcd a b
        rw [← hg.out, Nat.gcd_comm y (x % y), ← Nat.gcd_rec y x, Nat.gcd_comm]
      · simp [intOf]; omega
theorem divide_lt (A B : Option Addr) (n m ca cb : Nat) (f g : Nat → Nat) (w : World) (hn : n ≤ 999999) (hna : n ≤ ca) (hA : Dg w A n f) (hB : Dg w B m g)
    (hf : ∀ i, i < n → f i < W) (hg : ∀ i, i < m → g i < W) (hfn : Nrm f n) (hgn : Nrm g m) (hTA : TT w A n) (hlt : V f n < V g m) :
    Calls Tryz.prog 266 #[.slice A n ca, .slice B m cb] w (RetDiv (V f n) (V g m) w) := by
  have HC := Lib.hid (comp_any A B n m ca cb f g w (by omega) hA hB hf hg hfn hgn)
  have HCI : Hid (cmpI (V f n) (V g m) = -1) := cmpI_lt (by omega)
  have HF := Lib.hid hf
  have HN := Lib.hid hfn
  have HL := Lib.hid hlt
  clear hf hg hfn hgn hlt
  rw [HCI.out] at HC
  go_enter Tryz.func266, Tryz.ntmps266
  go_wp2_with ((with_reducible refine HC.out.mono ?_); rintro e w1 ⟨rfl, hd⟩)
  go_ret2
  refine ⟨_, _, rfl, ?_, ?_, hd.below _⟩
  · rw [Nat.div_eq_of_lt HL.out]
    exact ⟨none, 0, 0, fun _ => 0, rfl, Nat.le_refl _, fun i hi => by omega, Or.inl rfl, rfl, fun h => by omega, fun h => by omega⟩
  · rw [Nat.mod_eq_of_lt HL.out]
    exact ⟨A, n, ca, f, rfl, hna, HF.out, HN.out, rfl, hd.dg hA, hd.tt hTA⟩
theorem cmpI_ge {x y : Int} (h : ¬ x < y) : ∃ r : Int, cmpI x y = r ∧ 0 ≤ r := by
  refine ⟨cmpI x y, rfl, ?_⟩
  unfold cmpI
  rw [if_neg h]
  split <;> omega
theorem V_lt_two {f : Nat → Nat} {n : Nat} (hf : ∀ i, i < n → f i < W) (hn : n ≤ 2) : V f n < 18446744073709551616 := by
  have h := V_lt hf
  have h2 := pow_le hn
  have e : W ^ 2 = 18446744073709551616 := by rw [W_eq]
  omega
theorem V_one (f : Nat → Nat) : V f 1 = f 0 := by rw [V_succ, V_zero, Nat.pow_zero]; omega
theorem divide_two (A B : Option Addr) (n m ca cb : Nat) (f g : Nat → Nat) (w : World) (hn : n ≤ 2) (hA : Dg w A n f) (hB : Dg w B m g)
    (hf : ∀ i, i < n → f i < W) (hg : ∀ i, i < m → g i < W) (hfn : Nrm f n) (hgn : Nrm g m) (hge : ¬ V f n < V g m) (hm : 0 < V g m) :
    Calls Tryz.prog 266 #[.slice A n ca, .slice B m cb] w (RetDiv (V f n) (V g m) w) := by
  have hm2 : m ≤ 2 := len_of_lt hgn (by have := V_lt hf; have := pow_le hn; omega)
  obtain ⟨r, hr, hr0⟩ := cmpI_ge (x := ((V f n : Nat) : Int)) (y := ((V g m : Nat) : Int)) (by omega)
  have HC := Lib.hid (comp_any A B n m ca cb f g w (by omega) hA hB hf hg hfn hgn)
  rw [hr] at HC
  have bx := V_lt_two hf hn
  have by' := V_lt_two hg hm2
  have HF := Lib.hid hf
  have HG := Lib.hid hg
  generalize hX : V f n = X at *
  generalize hY : V g m = Y at *
  have HA : Hid (∀ wx, Below w.heap.size w wx → Calls Tryz.prog 219 #[.slice A n ca] wx fun e w' => e = .returned (.int .u64 ((X : Nat) : Int)) ∧ wx = w') := fun wx hx => by rw [← hX]; exact wordm_any A n ca f wx hn (hA.keep hx) HF.out
  have HB : Hid (∀ wx, Below w.heap.size w wx → Calls Tryz.prog 219 #[.slice B m cb] wx fun e w' => e = .returned (.int .u64 ((Y : Nat) : Int)) ∧ wx = w') := fun wx hx => by rw [← hY]; exact wordm_any B m cb g wx hm2 (hB.keep hx) HG.out
  have hq64 : X / Y < 18446744073709551616 := Nat.lt_of_le_of_lt (Nat.div_le_self _ _) bx
  have hr64 : X % Y < 18446744073709551616 := Nat.lt_of_le_of_lt (Nat.mod_le _ _) bx
  have HQ : Hid (∀ wx, Calls Tryz.prog 218 #[.int .u64 ((X : Int) / (Y : Int))] wx (RetD (X / Y) wx)) := fun wx => by rw [← Int.natCast_ediv]; exact word_any _ wx hq64
  have HR : Hid (∀ wx, Calls Tryz.prog 218 #[.int .u64 ((X : Int) % (Y : Int))] wx (RetD (X % Y) wx)) := fun wx => by rw [← Int.natCast_emod]; exact word_any _ wx hr64
  have hq0 : 0 ≤ (X : Int) / (Y : Int) := by rw [← Int.natCast_ediv]; exact Int.natCast_nonneg _
  have hr0' : 0 ≤ (X : Int) % (Y : Int) := by rw [← Int.natCast_emod]; exact Int.natCast_nonneg _
  clear hf hg hfn hgn hge bx by' hX hY hr hA hB
  have hn' : (n : Int) ≤ 2 := by omega
  have hr1 : decide (r < 0) = false := by simp; omega
  have hY0 : (Y : Int) ≠ 0 := by omega
  go_enter Tryz.func266, Tryz.ntmps266
  go_wp2_with ((with_reducible refine HC.out.mono ?_); rintro e w1 ⟨rfl, hd⟩)
  have B1 := Lib.hid (hd.below w.heap.size)
  clear hd
  (with_reducible refine (HA.out _ B1.out).mono ?_)
  rintro e w' ⟨rfl, rfl⟩
  go_wp2_with fail
  (with_reducible refine (HB.out _ B1.out).mono ?_)
  rintro e w' ⟨rfl, rfl⟩
  go_wp2_with fail
  (with_reducible refine (HQ.out _).mono ?_)
  rintro e w2 ⟨vq, rfl, hvq, hb2⟩
  have B2 := Lib.hid (B1.out.trans (hb2.mono B1.out.size))
  go_wp2_with fail
  (with_reducible refine (HA.out _ B2.out).mono ?_)
  rintro e w' ⟨rfl, rfl⟩
  go_wp2_with fail
  (with_reducible refine (HB.out _ B2.out).mono ?_)
  rintro e w' ⟨rfl, rfl⟩
  go_wp2_with fail
  (with_reducible refine (HR.out _).mono ?_)
  rintro e w3 ⟨vr, rfl, hvr, hb3⟩
  go_wp2_with fail
  go_ret2
  exact ⟨vq, vr, rfl, hvq.keep hb3, hvr, B2.out.trans (hb3.mono B2.out.size)⟩
theorem divide_one (A B : Option Addr) (n ca cb : Nat) (f g : Nat → Nat) (w : World) (hn : n ≤ 999999) (hn2 : 2 < n) (hA : Dg w A n f) (hB : Dg w B 1 g)
    (hf : ∀ i, i < n → f i < W) (hg : ∀ i, i < 1 → g i < W) (hfn : Nrm f n) (hgn : Nrm g 1) (hge : ¬ V f n < V g 1) (hm : 0 < V g 1) :
    Calls Tryz.prog 266 #[.slice A n ca, .slice B 1 cb] w (RetDiv (V f n) (V g 1) w) := by
  obtain ⟨r, hr, hr0⟩ := cmpI_ge (x := ((V f n : Nat) : Int)) (y := ((V g 1 : Nat) : Int)) (by omega)
  have HC := Lib.hid (comp_any A B n 1 ca cb f g w (by omega) hA hB hf hg hfn hgn)
  rw [hr] at HC
  obtain ⟨b, off, rfl, hb, hcs⟩ := hB (by omega)
  have hc0 := hcs 0 (by omega)
  rw [Nat.add_zero] at hc0
  have hg0 : g 0 < 4294967296 := hg 0 (by omega)
  rw [V_one] at hm
  have HR : Hid (∀ wx, Drn w wx → Calls Tryz.prog 281 #[.slice A n ca, .int .u32 ((g 0 : Nat) : Int)] wx (RetDiv (V f n) (V g 1) wx)) := fun wx hx => by
    rw [V_one]; exact divDigit_any A n ca f (g 0) wx (by omega) (hx.dg hA) hf hm hg0
  have HC0 := Lib.hid hc0
  clear hf hg hfn hgn hge hcs hr hc0
  have hn' : ¬ (n : Int) ≤ 2 := by omega
  have hr1 : decide (r < 0) = false := by simp; omega
  go_enter Tryz.func266, Tryz.ntmps266
  go_wp2_with ((with_reducible refine HC.out.mono ?_); rintro e w1 ⟨rfl, hd⟩; (have hcx := (hd.cell _).trans HC0.out); (have HD := Lib.hid hd); clear hd)
  (with_reducible refine (HR.out _ HD.out).mono ?_)
  rintro e w2 ⟨vq, vr, rfl, h1, h2, h3⟩
  go_wp2_with fail
  go_ret2
  exact ⟨vq, vr, rfl, h1, h2, (HD.out.below _).trans (h3.mono (HD.out.below w.heap.size).size)⟩
theorem divide_long (A : Option Addr) (n m ca b off cb : Nat) (f g : Nat → Nat) (w : World) (hn : n ≤ 999999) (hn2 : 2 < n) (hm2 : 2 ≤ m) (hA : Dg w A n f) (hb : b < w.heap.size)
    (hcs : ∀ i, i < m → w.cell? ⟨b, off + i, none⟩ = some (.int .u32 ((g i : Nat) : Int))) (hf : ∀ i, i < n → f i < W) (hg : ∀ i, i < m → g i < W) (hfn : Nrm f n) (hgn : Nrm g m) (hge : ¬ V f n < V g m) :
    Calls Tryz.prog 266 #[.slice A n ca, .slice (some ⟨b, off, none⟩) m cb] w (RetDiv (V f n) (V g m) w) := by
  obtain ⟨r, hr, hr0⟩ := cmpI_ge (x := ((V f n : Nat) : Int)) (y := ((V g m : Nat) : Int)) (by omega)
  have hmn : m ≤ n := by
    rcases Nat.lt_or_ge n m with c | c
    · exact absurd (V_lt_of_len hf hgn c) hge
    · exact c
  have htop : g (m - 1) ≠ 0 := by
    rcases hgn with h | h
    · omega
    · exact h
  have HC := Lib.hid (comp_any A _ n m ca cb f g w (by omega) hA (fun _ => ⟨b, off, rfl, hb, hcs⟩) hf hg hfn hgn)
  rw [hr] at HC
  have HR : Hid (∀ wx, Drn w wx → Calls Tryz.prog 282 #[.slice A n ca, .slice (some ⟨b, off, none⟩) m cb] wx (RetDiv (V f n) (V g m) wx)) := fun wx hx =>
    long_any A n ca b off m cb f g wx hn hm2 hmn (hx.dg hA) (by rw [hx.size]; exact hb) (fun i hi => (hx.cell _).trans (hcs i hi)) hf hg htop
  clear hf hg hfn hgn hge hcs hr htop
  have hn' : ¬ (n : Int) ≤ 2 := by omega
  have hr1 : decide (r < 0) = false := by simp; omega
  have hm1 : ((m : Int) == 1) = false := by rw [beq_eq_false_iff_ne]; omega
  go_enter Tryz.func266, Tryz.ntmps266
  go_wp2_with ((with_reducible refine HC.out.mono ?_); rintro e w1 ⟨rfl, hd⟩; (have HD := Lib.hid hd); clear hd)
  (with_reducible refine (HR.out _ HD.out).mono ?_)
  rintro e w2 ⟨vq, vr, rfl, h1, h2, h3⟩
  go_wp2_with fail
  go_ret2
  exact ⟨vq, vr, rfl, h1, h2, (HD.out.below _).trans (h3.mono (HD.out.below w.heap.size).size)⟩
theorem divide_any (A B : Option Addr) (n m ca cb : Nat) (f g : Nat → Nat) (w : World) (hn : n ≤ 999999) (hna : n ≤ ca) (hA : Dg w A n f) (hB : Dg w B m g)
    (hf : ∀ i, i < n → f i < W) (hg : ∀ i, i < m → g i < W) (hfn : Nrm f n) (hgn : Nrm g m) (hTA : TT w A n) (hm : 0 < V g m) :
    Calls Tryz.prog 266 #[.slice A n ca, .slice B m cb] w (RetDiv (V f n) (V g m) w) := by
  by_cases hge : V f n < V g m
  · exact divide_lt A B n m ca cb f g w hn hna hA hB hf hg hfn hgn hTA hge
  · by_cases hn2 : n ≤ 2
    · exact divide_two A B n m ca cb f g w hn2 hA hB hf hg hfn hgn hge hm
    · have hm0 : m ≠ 0 := by rintro rfl; rw [V_zero] at hm; omega
      by_cases hm1 : m = 1
      · subst hm1
        exact divide_one A B n ca cb f g w hn (by omega) hA hB hf hg hfn hgn hge hm
      · obtain ⟨b, off, rfl, hb, hcs⟩ := hB (by omega)
        exact divide_long A n m ca b off cb f g w hn (by omega) (by omega) hA hb hcs hf hg hfn hgn hge
theorem D.open_ {w : World} {A : Option Addr} {n c x : Nat} (h : D w (.slice A n c) x) : ∃ f, n ≤ c ∧ (∀ i, i < n → f i < W) ∧ Nrm f n ∧ V f n = x ∧ Dg w A n f := by
  obtain ⟨A', n', c', f, e, h1, h2, h3, h4, h5, _⟩ := h
  injection e with e1 e2 e3
  subst e1 e2 e3
  exact ⟨f, h1, h2, h3, h4, h5⟩
theorem D.zero {w : World} {A : Option Addr} {n c x : Nat} (h : D w (.slice A n c) x) : x = 0 ↔ n = 0 := by
  obtain ⟨f, h1, h2, h3, h4, h5⟩ := h.open_
  rw [← h4]; exact V_zero_iff h3
theorem D.len {w : World} {A : Option Addr} {n c x K : Nat} (h : D w (.slice A n c) x) (hx : x < W ^ K) : n ≤ K := by
  obtain ⟨f, h1, h2, h3, h4, h5⟩ := h.open_
  exact len_of_lt h3 (by rw [h4]; exact hx)
theorem D.shape {w : World} {v : Value} {x : Nat} (h : D w v x) : ∃ A n c, v = .slice A n c := by
  obtain ⟨A, n, c, f, e, _⟩ := h
  exact ⟨A, n, c, e⟩
theorem D.drew {w : World} {v : Value} {x : Nat} (h : D w v x) : D w.drew v x := Drn.d (Drn.more1 (Drn.refl w)) h
theorem bcell {w w1 : World} (hb : Below w.heap.size w w1) : (∀ b o, b < w.heap.size → w1.cell? ⟨b, o, none⟩ = w.cell? ⟨b, o, none⟩) ∧ (∀ b o, b < w.heap.size → w1.frozen? ⟨b, o, none⟩ = w.frozen? ⟨b, o, none⟩) :=
  ⟨fun b o h => hb.cell (p := ⟨b, o, none⟩) h, fun b o h => hb.frozen (p := ⟨b, o, none⟩) h⟩
def Bx (w : World) (g T : Nat) : Prop := ∃ cs fr, w.heap[g]? = some (.cells cs T fr)
theorem Bx.new (w : World) (cs : Array Value) (T : Nat) : Bx (w.alloc (.cells cs T)) w.heap.size T := ⟨cs, _, heap_alloc_new w _⟩
theorem Bx.new' (w : World) (cs : Array Value) (T : Nat) {g : Nat} (hg : g = w.heap.size) : Bx (w.alloc (.cells cs T)) g T := hg ▸ Bx.new w cs T
theorem Bx.keep {w w' : World} {g T : Nat} (h : Bx w g T) (hb : Below w.heap.size w w') : Bx w' g T := by
  obtain ⟨cs, fr, hc⟩ := h
  exact ⟨cs, fr, (hb.block g (lt_of_heap hc)).trans hc⟩
theorem Bx.set {w : World} {g T : Nat} (h : Bx w g T) (k o : Nat) (u : Value) : Bx (w.setCell ⟨k, o, none⟩ u) g T := by
  obtain ⟨cs, fr, hc⟩ := h
  by_cases e : k = g
  · refine ⟨cs.setIfInBounds o u, fr, ?_⟩
    subst e
    simp [World.setCell, Array.getElem?_modify, hc]
  · refine ⟨cs, fr, ?_⟩
    rw [Below.heap_setCell _ _ _ _ (fun h => e h.symm)]
    exact hc
theorem D.set {w : World} {v : Value} {x : Nat} (h : D w v x) {k T : Nat} (hb : Bx w k T) (hT : T ≠ 193) (o : Nat) (u : Value) : D (w.setCell ⟨k, o, none⟩ u) v x := by
  obtain ⟨A, n, c, f, h1, h2, h3, h4, h5, h6, h7⟩ := h
  obtain ⟨cs, fr, hc⟩ := hb
  have key : ∀ b : Nat, (∃ (cs : Array Value) (fr : Nat × Nat), w.heap[b]? = some (Obj.cells cs 193 fr)) → (w.setCell ⟨k, o, none⟩ u).heap[b]? = w.heap[b]? := by
    rintro b ⟨cs', fr', hc'⟩
    refine Below.heap_setCell _ _ _ _ ?_
    rintro rfl
    rw [hc] at hc'
    injection hc' with hc'
    injection hc' with _ ht
    exact hT ht
  refine ⟨A, n, c, f, h1, h2, h3, h4, h5, ?_, ?_⟩
  · intro hn
    obtain ⟨b, off, e, hlt, hcell⟩ := h6 hn
    obtain ⟨b', off', e', ht⟩ := h7 hn
    rw [e] at e'
    injection e' with e'
    injection e' with eb _
    subst eb
    exact ⟨b, off, e, by simpa [World.setCell] using hlt, fun i hi => (World.cell?_of_block (w := w) (a := ⟨b, off + i, none⟩) (key b ht)).trans (hcell i hi)⟩
  · intro hn
    obtain ⟨b, off, e, ht⟩ := h7 hn
    obtain ⟨cs', fr', hc'⟩ := ht
    exact ⟨b, off, e, cs', fr', (key b ⟨cs', fr', hc'⟩).trans hc'⟩
def RetJ (z : Int) (w : World) (e : Ending) (w' : World) : Prop :=
  ∃ A n c, e = .returned (.agg #[.bool (decide (z < 0)), .slice A n c]) ∧ D w' (.slice A n c) z.natAbs ∧ Below w.heap.size w w'
theorem retJ {z : Int} {A : Option Addr} {n c : Nat} {b : Bool} {w w' : World} (hb : b = decide (z < 0)) (hD : D w' (.slice A n c) z.natAbs) (hB : Below w.heap.size w w') : RetJ z w (.returned (.agg #[.bool b, .slice A n c])) w' :=
  ⟨A, n, c, by rw [hb], hD, hB⟩
theorem retJ_box {z : Int} {A : Option Addr} {n c g : Nat} {b : Bool} {w w1 : World} (hb : b = decide (z < 0)) (hD : D w1 (.slice A n c) z.natAbs) (hx : Bx w1 g 183) (hB : Below w.heap.size w w1) (hg : w.heap.size ≤ g) :
    RetJ z w (.returned (.agg #[.bool b, .slice A n c])) ((w1.setCell ⟨g, 0, none⟩ (.bool b)).setCell ⟨g, 1, none⟩ (.slice A n c)) :=
  retJ hb ((hD.set hx (by decide) _ _).set (hx.set _ _ _) (by decide) _ _) ((hB.setCell hg _).setCell hg _)
def sgn (b : Bool) (x : Nat) : Int := if b then -(x : Int) else (x : Int)
theorem sgn_abs (b : Bool) (x : Nat) : (sgn b x).natAbs = x := by cases b <;> simp [sgn]
theorem below_alloc (w : World) (o : Obj) : Below w.heap.size w (w.alloc o) := (Below.refl _ _).alloc (Nat.le_refl _) _
theorem signed_any (b : Bool) (A : Option Addr) (n c x : Nat) (w : World) (h : D w (.slice A n c) x) (hn : n ≤ 1000000) :
    Calls Tryz.prog 242 #[.bool b, .slice A n c] w (RetJ (sgn b x) w) := by
  have hz := h.zero
  have HD : Hid (∀ o, D (w.alloc o) (.slice A n c) (sgn b x).natAbs) := fun o => by rw [sgn_abs]; exact h.keep (below_alloc w o)
  cases b
  · have HS : Hid (false = decide (sgn false x < 0)) := by
      show false = _
      simp [sgn]
    clear hz h
    go_enter Tryz.func242, Tryz.ntmps242
    go_wp2_with fail
    exact bodyPost_ret (v := .agg #[.bool false, .slice A n c]) (by simp [results, Tryz.results242, go_sem]) rfl (retJ HS.out (HD.out _) (below_alloc w _))
  · by_cases h0 : n = 0
    · have HS : Hid (false = decide (sgn true x < 0)) := by
        show false = _
        have := hz.2 h0
        simp [sgn, this]
      subst h0
      clear hz h
      go_enter Tryz.func242, Tryz.ntmps242
      go_wp2_with fail
      exact bodyPost_ret (v := .agg #[.bool false, .slice A 0 c]) (by simp [results, Tryz.results242, go_sem]) rfl (retJ HS.out (HD.out _) (below_alloc w _))
    · have HS : Hid (true = decide (sgn true x < 0)) := by
        show true = _
        have : x ≠ 0 := fun e => h0 (hz.1 e)
        simp [sgn]; omega
      have h1 : 0 < n := by omega
      clear hz h h0
      go_enter Tryz.func242, Tryz.ntmps242
      go_wp2_with fail
      exact bodyPost_ret (v := .agg #[.bool true, .slice A n c]) (by simp [results, Tryz.results242, go_sem]) rfl (retJ HS.out (HD.out _) (below_alloc w _))
theorem box3 (w : World) (o1 o2 : Obj) (cs : Array Value) (T : Nat) : Bx (((w.alloc o1).alloc o2).alloc (.cells cs T)) (w.heap.size + 1 + 1) T ∧ Below w.heap.size w (((w.alloc o1).alloc o2).alloc (.cells cs T)) :=
  ⟨Bx.new' _ _ T (by simp), (((Below.refl _ _).alloc (Nat.le_refl _) _).alloc (by simp) _).alloc (by simp; omega) _⟩
theorem below_undrew' {X w : World} (h : Below X.drew.heap.size X.drew w) : Below X.heap.size X w := ⟨h.os, h.tape, h.output, h.size, h.block⟩
theorem szs {X w1 : World} {k : Nat} (hB : Below X.heap.size X w1) (hX : k + 2 < X.heap.size) : k < w1.heap.size ∧ k + 1 < w1.heap.size ∧ k + 2 < w1.heap.size := by
  have := hB.size
  omega
def Fr (g : Nat) (p q r s : Value) (w' : World) : Prop := w'.cell? ⟨g, 0, none⟩ = some p ∧ w'.cell? ⟨g, 1, none⟩ = some q ∧ w'.cell? ⟨g + 1, 0, none⟩ = some r ∧ w'.cell? ⟨g + 1, 1, none⟩ = some s
theorem Fr.keep {g : Nat} {p q r s : Value} {X w1 : World} (h : Fr g p q r s X) (hz : g + 1 < X.heap.size) (hB : Below X.heap.size X w1) : Fr g p q r s w1 := by
  obtain ⟨h1, h2, h3, h4⟩ := h
  exact ⟨(hB.cell (p := ⟨g, 0, none⟩) (by show g < _; omega)).trans h1, (hB.cell (p := ⟨g, 1, none⟩) (by show g < _; omega)).trans h2, (hB.cell (p := ⟨g + 1, 0, none⟩) hz).trans h3, (hB.cell (p := ⟨g + 1, 1, none⟩) hz).trans h4⟩
theorem Fr.out {g : Nat} {p q r s : Value} {w' : World} (h : Fr g p q r s w') : w'.cell? ⟨g, 0, none⟩ = some p ∧ w'.cell? ⟨g, 1, none⟩ = some q ∧ w'.cell? ⟨g + 1, 0, none⟩ = some r ∧ w'.cell? ⟨g + 1, 1, none⟩ = some s := h
def Wr (g T : Nat) (w' : World) : Prop := (∃ p q, w'.cell? ⟨g, 0, none⟩ = some p ∧ w'.cell? ⟨g, 1, none⟩ = some q) ∧ w'.frozen? ⟨g, 0, none⟩ = false ∧ w'.frozen? ⟨g, 1, none⟩ = false ∧ Bx w' g T
theorem Wr.keep {g T : Nat} {X w1 : World} (h : Wr g T X) (hB : Below X.heap.size X w1) : Wr g T w1 := by
  obtain ⟨⟨p, q, h1, h2⟩, h3, h4, h5⟩ := h
  obtain ⟨cs, fr, hc⟩ := h5
  have hz := lt_of_heap hc
  exact ⟨⟨p, q, (hB.cell (p := ⟨g, 0, none⟩) hz).trans h1, (hB.cell (p := ⟨g, 1, none⟩) hz).trans h2⟩, (hB.frozen (p := ⟨g, 0, none⟩) hz).trans h3, (hB.frozen (p := ⟨g, 1, none⟩) hz).trans h4, Bx.keep ⟨cs, fr, hc⟩ hB⟩
theorem Wr.new (w : World) (p q : Value) (T : Nat) {g : Nat} (hg : g = w.heap.size) : Wr g T (w.alloc (.cells #[p, q] T)) := by
  subst hg
  refine ⟨⟨p, q, ?_, ?_⟩, ?_, ?_, Bx.new w _ T⟩ <;> simp [go_sem]
theorem frame3 (w : World) (p q r s t u : Value) : Below w.heap.size w (((w.alloc (.cells #[p, q] 183)).alloc (.cells #[r, s] 183)).alloc (.cells #[t, u] 183)) ∧ w.heap.size + 3 = (((w.alloc (.cells #[p, q] 183)).alloc (.cells #[r, s] 183)).alloc (.cells #[t, u] 183)).heap.size ∧
    Wr (w.heap.size + 1 + 1) 183 (((w.alloc (.cells #[p, q] 183)).alloc (.cells #[r, s] 183)).alloc (.cells #[t, u] 183)) ∧ Fr w.heap.size p q r s (((w.alloc (.cells #[p, q] 183)).alloc (.cells #[r, s] 183)).alloc (.cells #[t, u] 183)) :=
  ⟨(((Below.refl _ _).alloc (Nat.le_refl _) _).alloc (by simp) _).alloc (by simp; omega) _, by simp, Wr.new _ _ _ 183 (by simp), by simp [Fr, go_sem]⟩
theorem sgn_mul (b1 b2 : Bool) (x y : Nat) : sgn b1 x * sgn b2 y = sgn (!b1 == b2) (x * y) := by
  cases b1 <;> cases b2 <;> simp [sgn, Int.neg_mul, Int.mul_neg]
theorem D.pow {w : World} {A : Option Addr} {n c x : Nat} (h : D w (.slice A n c) x) : x < W ^ n := by
  obtain ⟨f, h1, h2, h3, h4, h5⟩ := h.open_
  rw [← h4]; exact V_lt h2
theorem mul_lt_pow {x y n m : Nat} (hx : x < W ^ n) (hy : y < W ^ m) : x * y < W ^ (n + m) := by
  rw [Nat.pow_add]
  rcases Nat.eq_zero_or_pos y with h | h
  · subst h; rw [Nat.mul_zero]; exact Nat.mul_pos (pow_pos' n) (pow_pos' m)
  · exact Nat.lt_of_lt_of_le (Nat.mul_lt_mul_of_pos_right hx h) (Nat.mul_le_mul_left _ (Nat.le_of_lt hy))
theorem mulI_any (b1 b2 : Bool) (A B : Option Addr) (n m c d x y : Nat) (w : World) (h1 : D w (.slice A n c) x) (h2 : D w (.slice B m d) y) (hn : n ≤ 400000) (hm : m ≤ 400000) :
    Calls Tryz.prog 215 #[.agg #[.bool b1, .slice A n c], .agg #[.bool b2, .slice B m d]] w (RetJ (sgn b1 x * sgn b2 y) w) := by
  obtain ⟨f, f1, f2, f3, f4, f5⟩ := h1.open_
  obtain ⟨g, g1, g2, g3, g4, g5⟩ := h2.open_
  have HM : Hid (∀ wx, Below w.heap.size w wx → Calls Tryz.prog 243 #[.slice A n c, .slice B m d] wx (RetD (x * y) wx)) := fun wx hx => by
    rw [← f4, ← g4]; exact mul_any A B n m c d f g wx (by omega) (by omega) (f5.keep hx) (g5.keep hx) f2 g2
  have HXY := Lib.hid (mul_lt_pow h1.pow h2.pow)
  rw [sgn_mul]
  clear f1 f2 f3 f4 f5 g1 g2 g3 g4 g5 h1 h2
  go_enter Tryz.func215, Tryz.ntmps215
  go_wp2_with fail
  go_region_held3 (fun w' => w'.cell? ⟨w.heap.size, 0, none⟩ = some (.bool b1) ∧ w'.cell? ⟨w.heap.size, 1, none⟩ = some (.slice A n c) ∧ w'.cell? ⟨w.heap.size + 1, 0, none⟩ = some (.bool b2) ∧ w'.cell? ⟨w.heap.size + 1, 1, none⟩ = some (.slice B m d)) (simp [go_sem, World.cell?_alloc_past, *])
    (first
      | (go_at_call 243; (with_reducible refine (HM.out _ (by repeat (first | exact Below.refl _ _ | refine Below.drew ?_ | refine Below.alloc ?_ (by simp <;> omega) _))).mono ?_); rintro e w1 ⟨v, rfl, hD, hB⟩; obtain ⟨A1, n1, c1, rfl⟩ := hD.shape; obtain ⟨hc, hf⟩ := bcell hB; have hn1 := hD.len HXY.out; obtain ⟨z0, z1, z2⟩ := szs (k := w.heap.size) hB (by simp))
      | (go_at_call 242; (with_reducible refine (signed_any _ _ _ _ _ _ (by assumption) (by omega)).mono ?_); rintro e w2 ⟨A2, n2, c2, rfl, hD2, hB2⟩; obtain ⟨hc2, hf2⟩ := bcell hB2; obtain ⟨y0, y1, y2⟩ := szs (k := w.heap.size) hB2 (by (try simp); omega)))
  all_goals go_wp2_with fail
  obtain ⟨bx, bb⟩ := box3 w (.cells #[.bool b1, .slice A n c] 183) (.cells #[.bool b2, .slice B m d] 183) #[.bool false, .slice none 0 0] 183
  have hB := below_undrew' hB
  have b1w : Below w.heap.size w w1 := bb.trans (hB.mono bb.size)
  exact bodyPost_ret (v := .agg #[.bool (decide (sgn (!b1 == b2) (x * y) < 0)), .slice A2 n2 c2]) (by simp [results, Tryz.results215, go_sem, *]) rfl
    (retJ_box rfl hD2 ((bx.keep hB).keep hB2) (b1w.trans (hB2.mono b1w.size)) (by omega))
end Go.Proofs.YtmfnpipmbpnfbaaGreatDoor
