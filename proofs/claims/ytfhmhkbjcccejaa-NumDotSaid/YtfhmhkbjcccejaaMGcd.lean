/- The greatest common divisor of digits in memory, where one of both numbers has at most two digits. -/
import Derived.Test.YtfhmhkbjcccejaaMDiv

namespace Go.Proofs.Ytfhmhkbjcccejaa
open Go.RowKit

set_option maxRecDepth 100000 in
set_option maxHeartbeats 2000000 in
theorem gcd_ge (A B : Option Addr) (n m ca cb : Nat) (f g : Nat → Nat) (w : World) (hn : n ≤ 999999) (hm : m ≤ 999999) (hna : n ≤ ca) (_hmb : m ≤ cb) (hA : Dg w A n f) (hB : Dg w B m g)
    (hf : ∀ i, i < n → f i < W) (hg : ∀ i, i < m → g i < W) (hfn : Nrm f n) (hgn : Nrm g m) (hTA : TT w A n) (_hTB : TT w B m) (hcmp : ¬ V f n < V g m) (hs : m ≤ 2) :
    Calls Try.prog 85 #[.slice A n ca, .slice B m cb] w (RetD (Nat.gcd (V f n) (V g m)) w) := by
  have HC := Lib.hid (comp_any A B n m ca cb f g w (by omega) hA hB hf hg hfn hgn)
  obtain ⟨r, hr, hr0⟩ := cmpI_ge (x := ((V f n : Nat) : Int)) (y := ((V g m : Nat) : Int)) (by omega)
  rw [hr] at HC
  have hr1 : decide (r < 0) = false := by simp; omega
  clear hr
  have HDV : Hid (0 < V g m → ∀ wx, Drn w wx → Calls Try.prog 102 #[.slice A n ca, .slice B m cb] wx (RetDiv (V f n) (V g m) wx)) :=
    fun hp wx hx => divide_any A B n m ca cb f g wx hn hna (hx.dg hA) (hx.dg hB) hf hg hfn hgn (hx.tt hTA) hp
  have HBW : Hid (∀ wx, Below w.heap.size w wx → Calls Try.prog 89 #[.slice B m cb] wx fun e w' => e = .returned (.int .u64 ((V g m : Nat) : Int)) ∧ wx = w') := fun wx hx => wordm_any B m cb g wx hs (hB.keep hx) hg
  have HZ : Hid (V g m = 0 ↔ m = 0) := V_zero_iff hgn
  have H64 := Lib.hid (V_lt_two hg hs)
  have HF : Hid (∀ i, i < n → f i < W) := hf
  have HFN : Hid (Nrm f n) := hfn
  clear hf hg hfn hgn hcmp
  have hs' : ¬ (2 : Int) < (m : Int) := by omega
  go_enter Try.func85, Try.ntmps85
  go_wp2_with ((with_reducible refine HC.out.mono ?_); rintro e w1 ⟨rfl, hd⟩; (have HD := Lib.hid hd); clear hd)
  go_loopw [0, 1] (fun s t wr => s = .slice A n ca ∧ t = .slice B m cb ∧ wr = w1) (fun _ _ _ => 0)
  case atStart => exact ⟨rfl, rfl, rfl⟩
  case round =>
    obtain ⟨rfl, rfl, rfl⟩ := hrel
    rcases Nat.eq_zero_or_pos m with h0 | h0
    · have HG0 : Hid (Nat.gcd (V f n) (V g m) = V f n) := by rw [show V g m = 0 from HZ.out.2 h0, Nat.gcd_zero_right]; rfl
      have HH0 := Lib.hid h0
      have hm0 : ((m : Int) == 0) = true := by rw [beq_iff_eq]; omega
      clear h0
      go_wp2_with fail
      go_ret
      exact ⟨_, rfl, by rw [HG0.out]; exact ⟨A, n, ca, f, rfl, hna, HF.out, HFN.out, rfl, HD.out.dg hA, HD.out.tt hTA⟩, HD.out.below _⟩
    · have hp : 0 < V g m := by
        rcases Nat.eq_zero_or_pos (V g m) with z | z
        · have := HZ.out.1 z; omega
        · exact z
      have hm0 : ((m : Int) == 0) = false := by rw [beq_eq_false_iff_ne]; omega
      have HR := Lib.hid (HDV.out hp _ HD.out)
      have HP := Lib.hid hp
      clear hp h0
      go_wp2_with fail
      (with_reducible refine HR.out.mono ?_)
      rintro e w2 ⟨vq, vr, rfl, h1, h2, h3⟩
      obtain ⟨R, rn, rc, rf, rfl, r1, r2, r3, r4, r5, _⟩ := h2
      have hlt : V rf rn < V g m := by rw [r4]; exact Nat.mod_lt _ HP.out
      have hrn : rn ≤ 2 := by
        have := H64.out
        refine len_of_lt r3 ?_
        have e : W ^ 2 = 18446744073709551616 := by rw [W_eq]
        omega
      have hr64 : V rf rn < 18446744073709551616 := by have := H64.out; omega
      have hb2 := (HD.out.below w.heap.size).trans (h3.mono (HD.out.below w.heap.size).size)
      have HB2 := Lib.hid hb2
      have HW2 := Lib.hid (wordm_any R rn rc rf w2 hrn r5 r2)
      have HG2 := Lib.hid (fun wx => wordDiv_any (V g m) (V rf rn) wx H64.out hr64)
      have hgl : Nat.gcd (V g m) (V rf rn) < 18446744073709551616 := Nat.lt_of_le_of_lt (Nat.gcd_le_left _ HP.out) H64.out
      have HW3 := Lib.hid (fun wx => word_any (Nat.gcd (V g m) (V rf rn)) wx hgl)
      have HEQ : Hid (Nat.gcd (V f n) (V g m) = Nat.gcd (V g m) (V rf rn)) := by
        show _ = _
        rw [r4, Nat.gcd_comm (V f n), Nat.gcd_rec, Nat.gcd_comm]
      clear r1 r2 r3 r4 r5 hlt hrn hr64 hb2 hgl h1 h3
      go_wp2_with fail
      (with_reducible refine (HBW.out _ HB2.out).mono ?_)
      rintro e w' ⟨rfl, rfl⟩
      go_wp2_with fail
      (with_reducible refine HW2.out.mono ?_)
      rintro e w' ⟨rfl, rfl⟩
      go_wp2_with fail
      (with_reducible refine (HG2.out _).mono ?_)
      rintro e w3 ⟨rfl, hd3⟩
      have HD3 := Lib.hid hd3
      clear hd3
      go_wp2_with fail
      (with_reducible refine (HW3.out _).mono ?_)
      rintro e w4 ⟨v4, rfl, hv4, hb4⟩
      go_wp2_with fail
      go_ret
      have hb3 := HB2.out.trans (HD3.out.below w.heap.size)
      exact ⟨v4, rfl, by rw [HEQ.out]; exact hv4, hb3.trans (hb4.mono hb3.size)⟩

set_option maxRecDepth 100000 in
set_option maxHeartbeats 2000000 in
theorem gcd_lt (A B : Option Addr) (n m ca cb : Nat) (f g : Nat → Nat) (w : World) (hn : n ≤ 999999) (hm : m ≤ 999999) (_hna : n ≤ ca) (hmb : m ≤ cb) (hA : Dg w A n f) (hB : Dg w B m g)
    (hf : ∀ i, i < n → f i < W) (hg : ∀ i, i < m → g i < W) (hfn : Nrm f n) (hgn : Nrm g m) (_hTA : TT w A n) (hTB : TT w B m) (hcmp : V f n < V g m) (hs : n ≤ 2) :
    Calls Try.prog 85 #[.slice A n ca, .slice B m cb] w (RetD (Nat.gcd (V g m) (V f n)) w) := by
  have HC := Lib.hid (comp_any A B n m ca cb f g w (by omega) hA hB hf hg hfn hgn)
  have HCI : Hid (cmpI (V f n) (V g m) = -1) := cmpI_lt (by omega)
  rw [HCI.out] at HC
  clear HCI
  have HDV : Hid (0 < V f n → ∀ wx, Drn w wx → Calls Try.prog 102 #[.slice B m cb, .slice A n ca] wx (RetDiv (V g m) (V f n) wx)) :=
    fun hp wx hx => divide_any B A m n cb ca g f wx hm hmb (hx.dg hB) (hx.dg hA) hg hf hgn hfn (hx.tt hTB) hp
  have HBW : Hid (∀ wx, Below w.heap.size w wx → Calls Try.prog 89 #[.slice A n ca] wx fun e w' => e = .returned (.int .u64 ((V f n : Nat) : Int)) ∧ wx = w') := fun wx hx => wordm_any A n ca f wx hs (hA.keep hx) hf
  have HZ : Hid (V f n = 0 ↔ n = 0) := V_zero_iff hfn
  have H64 := Lib.hid (V_lt_two hf hs)
  have HF : Hid (∀ i, i < m → g i < W) := hg
  have HFN : Hid (Nrm g m) := hgn
  clear hf hg hfn hgn hcmp
  have hs' : ¬ (2 : Int) < (n : Int) := by omega
  go_enter Try.func85, Try.ntmps85
  go_wp2_with ((with_reducible refine HC.out.mono ?_); rintro e w1 ⟨rfl, hd⟩; (have HD := Lib.hid hd); clear hd)
  go_loopw [0, 1] (fun s t wr => s = .slice B m cb ∧ t = .slice A n ca ∧ wr = w1) (fun _ _ _ => 0)
  case atStart => exact ⟨rfl, rfl, rfl⟩
  case round =>
    obtain ⟨rfl, rfl, rfl⟩ := hrel
    rcases Nat.eq_zero_or_pos n with h0 | h0
    · have HG0 : Hid (Nat.gcd (V g m) (V f n) = V g m) := by rw [show V f n = 0 from HZ.out.2 h0, Nat.gcd_zero_right]; rfl
      have HH0 := Lib.hid h0
      have hm0 : ((n : Int) == 0) = true := by rw [beq_iff_eq]; omega
      clear h0
      go_wp2_with fail
      go_ret
      exact ⟨_, rfl, by rw [HG0.out]; exact ⟨B, m, cb, g, rfl, hmb, HF.out, HFN.out, rfl, HD.out.dg hB, HD.out.tt hTB⟩, HD.out.below _⟩
    · have hp : 0 < V f n := by
        rcases Nat.eq_zero_or_pos (V f n) with z | z
        · have := HZ.out.1 z; omega
        · exact z
      have hm0 : ((n : Int) == 0) = false := by rw [beq_eq_false_iff_ne]; omega
      have HR := Lib.hid (HDV.out hp _ HD.out)
      have HP := Lib.hid hp
      clear hp h0
      go_wp2_with fail
      (with_reducible refine HR.out.mono ?_)
      rintro e w2 ⟨vq, vr, rfl, h1, h2, h3⟩
      obtain ⟨R, rn, rc, rf, rfl, r1, r2, r3, r4, r5, _⟩ := h2
      have hlt : V rf rn < V f n := by rw [r4]; exact Nat.mod_lt _ HP.out
      have hrn : rn ≤ 2 := by
        have := H64.out
        refine len_of_lt r3 ?_
        have e : W ^ 2 = 18446744073709551616 := by rw [W_eq]
        omega
      have hr64 : V rf rn < 18446744073709551616 := by have := H64.out; omega
      have hb2 := (HD.out.below w.heap.size).trans (h3.mono (HD.out.below w.heap.size).size)
      have HB2 := Lib.hid hb2
      have HW2 := Lib.hid (wordm_any R rn rc rf w2 hrn r5 r2)
      have HG2 := Lib.hid (fun wx => wordDiv_any (V f n) (V rf rn) wx H64.out hr64)
      have hgl : Nat.gcd (V f n) (V rf rn) < 18446744073709551616 := Nat.lt_of_le_of_lt (Nat.gcd_le_left _ HP.out) H64.out
      have HW3 := Lib.hid (fun wx => word_any (Nat.gcd (V f n) (V rf rn)) wx hgl)
      have HEQ : Hid (Nat.gcd (V g m) (V f n) = Nat.gcd (V f n) (V rf rn)) := by
        show _ = _
        rw [r4, Nat.gcd_comm (V g m), Nat.gcd_rec, Nat.gcd_comm]
      clear r1 r2 r3 r4 r5 hlt hrn hr64 hb2 hgl h1 h3
      go_wp2_with fail
      (with_reducible refine (HBW.out _ HB2.out).mono ?_)
      rintro e w' ⟨rfl, rfl⟩
      go_wp2_with fail
      (with_reducible refine HW2.out.mono ?_)
      rintro e w' ⟨rfl, rfl⟩
      go_wp2_with fail
      (with_reducible refine (HG2.out _).mono ?_)
      rintro e w3 ⟨rfl, hd3⟩
      have HD3 := Lib.hid hd3
      clear hd3
      go_wp2_with fail
      (with_reducible refine (HW3.out _).mono ?_)
      rintro e w4 ⟨v4, rfl, hv4, hb4⟩
      go_wp2_with fail
      go_ret
      have hb3 := HB2.out.trans (HD3.out.below w.heap.size)
      exact ⟨v4, rfl, by rw [HEQ.out]; exact hv4, hb3.trans (hb4.mono hb3.size)⟩

end Go.Proofs.Ytfhmhkbjcccejaa
