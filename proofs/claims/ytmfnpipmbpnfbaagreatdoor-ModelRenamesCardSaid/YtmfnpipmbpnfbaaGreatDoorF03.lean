/- The product of two lists of digits in memory, the outer loop. -/
import Derived.Test.YtmfnpipmbpnfbaaGreatDoorF02

set_option maxRecDepth 100000
set_option maxHeartbeats 40000000
namespace Go.Proofs.YtmfnpipmbpnfbaaGreatDoor
open Go.RowKit
def PRel (w : World) (n m : Nat) (f g : Nat → Nat) (i : Value) (wr : World) : Prop :=
  ∃ (k : Nat) (h : Nat → Nat), k ≤ n ∧ i = .int .i64 (k : Int) ∧ Row wr w.heap.size (n + m) h ∧ (∀ j, j < n + m → h j < W) ∧ (∀ j, k + m ≤ j → h j = 0) ∧ V h (k + m) = V f k * V g m ∧ Below w.heap.size w wr
theorem prel_start (w : World) (n m : Nat) (f g : Nat → Nat) : PRel w n m f g (.int .i64 0) (w.alloc (.cells (madeCells #[.int .u32 0] (n + m)) 193)) :=
  ⟨0, fun _ => 0, Nat.zero_le _, rfl, Row.new w _, fun j hj => W_pos, fun j hj => rfl, by rw [V_tail (Nat.zero_le _) (fun _ _ _ => rfl), V_zero, V_zero, Nat.zero_mul], (Below.refl _ _).alloc (Nat.le_refl _) _⟩
theorem prel_step {w wr w1 w2 : World} {n m k c : Nat} {f g h h1 : Nat → Nat} (hk : k < n) (hW : ∀ j, j < n + m → h j < W) (hz : ∀ j, k + m ≤ j → h j = 0) (hv : V h (k + m) = V f k * V g m) (hbel : Below w.heap.size w wr)
    (hc : c < 4294967296) (hrow : Row w1 w.heap.size (n + m) h1) (hsame : ∀ j, j < 0 + k ∨ 0 + k + m ≤ j → h1 j = h j) (hd : ∀ j, j < m → sh h1 (0 + k) j < W) (hm : V (sh h1 (0 + k)) m + c * W ^ m = V (sh h (0 + k)) m + f k * V g m)
    (hgr : wr.grownBy w1 (some w.heap.size)) {a : Int} {i : Value} (ha : a = (k : Int) + 1) (hi : i = .int .i64 a)
    (hw : w2 = w1.setCell ⟨w.heap.size, k + m, none⟩ (.int .u32 (c : Int))) : PRel w n m f g i w2 := by
  subst ha hi hw
  rw [Nat.zero_add] at hsame hd hm
  have hsize : w.heap.size ≤ wr.heap.size := hbel.size
  refine ⟨k + 1, up h1 (k + m) c, by omega, by rw [show ((k + 1 : Nat) : Int) = (k : Int) + 1 from by omega], hrow.set _ _, ?_, ?_, ?_, ?_⟩
  · intro j hj
    by_cases e : j = k + m
    · rw [e, up_at]; exact hc
    · rw [up_far h1 _ e]
      by_cases e1 : j < k ∨ k + m ≤ j
      · rw [hsame j e1]; exact hW j hj
      · have := hd (j - k) (by omega)
        unfold sh at this
        rwa [show k + (j - k) = j from by omega] at this
  · intro j hj
    rw [up_far h1 _ (by omega), hsame j (by omega)]
    exact hz j (by omega)
  · rw [show k + 1 + m = (k + m) + 1 from by omega, V_succ, up_at, V_up_below h1 _ (Nat.le_refl _), V_split, V_succ, Nat.add_mul, ← hv, V_split h k m, Nat.pow_add]
    have e1 : V h1 k = V h k := V_congr fun j hj => hsame j (by omega)
    rw [e1]
    have e2 : W ^ k * (V (sh h1 k) m + c * W ^ m) = W ^ k * (V (sh h k) m + f k * V g m) := by rw [hm]
    unfold sh at e2
    rw [Nat.mul_add, Nat.mul_add] at e2
    have e3 : W ^ k * (c * W ^ m) = c * (W ^ k * W ^ m) := by rw [← Nat.mul_assoc, Nat.mul_comm (W ^ k) c, Nat.mul_assoc]
    have e4 : W ^ k * (f k * V g m) = f k * W ^ k * V g m := by rw [← Nat.mul_assoc, Nat.mul_comm (W ^ k)]
    omega
  · exact (hbel.grown hgr hsize (fun q hq => by injection hq with hq; omega)).setCell (Nat.le_refl _) _
theorem mul_any (A B : Option Addr) (n m ca cb : Nat) (f g : Nat → Nat) (w : World) (hn : n ≤ 1000000) (hm : m ≤ 1000000) (hA : Dg w A n f) (hB : Dg w B m g)
    (hf : ∀ i, i < n → f i < W) (hg : ∀ i, i < m → g i < W) :
    Calls Tryz.prog 243 #[.slice A n ca, .slice B m cb] w (RetD (V f n * V g m) w) := by
  have hmk := make_row (n + m) (by omega)
  have ec : ((n + m : Nat) : Int) = (n : Int) + m := by omega
  rw [ec] at hmk
  have HF := Lib.hid hf
  have HG := Lib.hid hg
  clear hf hg
  go_enter Tryz.func243, Tryz.ntmps243
  go_wp2_with fail
  clear hmk ec
  go_loopw [17] (fun i wr => PRel w n m f g i wr) (fun i _ => n - (intOf i).toNat)
  case atStart => exact prel_start w n m f g
  case round =>
    obtain ⟨k, h, hk, rfl, hrow, hW, hz, hv, hbel⟩ := hrel
    have HW := Lib.hid hW
    have HZ := Lib.hid hz
    have HV := Lib.hid hv
    clear hW hz hv
    by_cases hlt : k < n
    · obtain ⟨b, off, rfl, hb, hcells⟩ := hA (by omega)
      have hc1 := (hbel.cell (p := ⟨b, off + k, none⟩) hb).trans (hcells k hlt)
      have hB1 : Dg wr B m g := hB.keep hbel
      have hne : Hid (∀ b off, B = some ⟨b, off, none⟩ → 0 < m → b ≠ w.heap.size) := by
        intro b off e h0
        obtain ⟨b', off', e', hb', _⟩ := hB h0
        rw [e] at e'
        injection e' with e'
        injection e' with e'
        omega
      have b1 : f k < 4294967296 := HF.out k hlt
      clear hcells
      go_wp2_with fail
      refine (addM_any w.heap.size (n + m) k m (n + m - k) B m cb g h (f k) wr (by omega) hm (Nat.le_refl _) (by omega) hrow hB1 hne.out HG.out HW.out b1).mono ?_
      rintro e w1 ⟨c, h1, rfl, hc, hrow1, hsame, hd, hmm, hgr⟩
      have HS1 := Lib.hid hsame
      have HD1 := Lib.hid hd
      have HM1 := Lib.hid hmm
      clear hsame hd hmm
      have hcell := hrow1.cell (show k + m < n + m by omega)
      have hfr := hrow1.frozen (k + m)
      go_wp2_with fail
      refine ⟨prel_step hlt HW.out HZ.out HV.out hbel hc hrow1 ?_ ?_ ?_ hgr rfl rfl rfl, by simp [intOf]; omega⟩
      · rw [Nat.zero_add]; exact HS1.out
      · rw [Nat.zero_add]; exact HD1.out
      · rw [Nat.zero_add]; exact HM1.out
    · have hke : k = n := by omega
      have HD := Lib.hid (hrow.dg (Nat.le_refl _))
      have HE : Hid (V h (n + m) = V f n * V g m) := by have := HV.out; rw [hke] at this; exact this
      clear hke HV HZ
      go_wp2_with ((with_reducible refine (trim_any _ _ _ h _ (Nat.le_refl _) (by omega) HD.out).mono ?_); rintro e w' ⟨q, rfl, hq, hN, hQ, rfl⟩)
      go_ret
      refine ⟨_, rfl, ⟨_, q, _, h, rfl, by omega, fun i hi => HW.out i (by omega), hN, hQ.trans HE.out, ?_, hrow.tt _⟩, hbel⟩
      intro h0
      obtain ⟨b, off, e1, e2, e3⟩ := HD.out (by omega)
      exact ⟨b, off, e1, e2, fun i hi => e3 i (by omega)⟩
def SRel (w : World) (g0 N o m x : Nat) (g h0 : Nat → Nat) (carry borrow i : Value) (wr : World) : Prop :=
  ∃ (k c d : Nat) (h : Nat → Nat), k ≤ m ∧ i = .int .i64 (k : Int) ∧ carry = .int .u64 (c : Int) ∧ c < 4294967296 ∧ borrow = .int .u32 (d : Int) ∧ d ≤ 1 ∧ Row wr g0 N h ∧ (∀ j, j < o ∨ o + k ≤ j → h j = h0 j) ∧ (∀ j, j < k → sh h o j < W) ∧
    V (sh h o) k + x * V g k = V (sh h0 o) k + (c + d) * W ^ k ∧ w.grownBy wr (some g0)
theorem srel_start (w : World) {g0 N o m x : Nat} {g h0 : Nat → Nat} (hrow : Row w g0 N h0) : SRel w g0 N o m x g h0 (.int .u64 0) (.int .u32 0) (.int .i64 0) w :=
  ⟨0, 0, 0, h0, Nat.zero_le _, rfl, rfl, by omega, rfl, by omega, hrow, fun _ _ => rfl, fun j hj => by omega, by simp [V_zero], World.grownBy.refl w _⟩
theorem dig_sub (a y d : Nat) (ha : a < 4294967296) (hy : y < 4294967296) (hd : d ≤ 1) : ∃ r e : Nat, ((a : Int) - (y : Int) - (d : Int)) % 4294967296 = (r : Int) ∧ bor (a : Int) ((y : Int) + (d : Int)) = (e : Int) ∧ r < W ∧ e ≤ 1 ∧ r + y + d = a + e * W := by
  obtain ⟨r, hr⟩ := Int.eq_ofNat_of_zero_le (show 0 ≤ ((a : Int) - (y : Int) - (d : Int)) % 4294967296 by omega)
  obtain ⟨e, he⟩ := Int.eq_ofNat_of_zero_le (bor_01 (a : Int) ((y : Int) + (d : Int))).1
  have he1 : e ≤ 1 := by have := (bor_01 (a : Int) ((y : Int) + (d : Int))).2; omega
  refine ⟨r, e, hr, he, by rw [W_eq]; omega, he1, ?_⟩
  unfold bor at he
  rw [W_eq]
  split at he <;> omega
theorem srel_step {w wr w2 : World} {g0 N o m x k c d : Nat} {g h0 h : Nat → Nat} (hk : k < m) (hc : c < 4294967296) (hd : d ≤ 1) (hx : x < 4294967296) (hg : g k < 4294967296) (hh0 : h0 (o + k) < 4294967296) (hrow : Row wr g0 N h)
    (hsame : ∀ j, j < o ∨ o + k ≤ j → h j = h0 j) (hh : ∀ j, j < k → sh h o j < W) (hv : V (sh h o) k + x * V g k = V (sh h0 o) k + (c + d) * W ^ k) (hgr : w.grownBy wr (some g0)) {a s : Int} {i b1 : Value}
    (hs : s = (x : Int) * ((g k : Nat) : Int) + (c : Int)) (ha : a = (k : Int) + 1) (hi : i = .int .i64 a) (hb : b1 = .int .u32 (bor ((h (o + k) : Nat) : Int) (s % 4294967296 + (d : Int))))
    (hw : w2 = wr.setCell ⟨g0, o + k, none⟩ (.int .u32 ((((h (o + k) : Nat) : Int) - s % 4294967296 - (d : Int)) % 4294967296))) :
    SRel w g0 N o m x g h0 (.int .u64 (s / 4294967296)) b1 i w2 := by
  subst hs ha hi hb hw
  have e0 : h (o + k) = h0 (o + k) := hsame _ (Or.inr (Nat.le_refl _))
  have hp : x * g k ≤ 4294967295 * 4294967295 := Nat.mul_le_mul (by omega) (by omega)
  obtain ⟨t, ht⟩ : ∃ t, t = x * g k + c := ⟨_, rfl⟩
  have e1 : (x : Int) * ((g k : Nat) : Int) + (c : Int) = (t : Int) := by rw [ht, Int.natCast_add, Int.natCast_mul]
  rw [e1]
  have e2 : (t : Int) % 4294967296 = ((t % W : Nat) : Int) := by rw [W_eq]; omega
  have e3 : (t : Int) / 4294967296 = ((t / W : Nat) : Int) := by rw [W_eq]; omega
  rw [e2, e3]
  obtain ⟨r, e, hr, he, hrW, he1, hre⟩ := dig_sub (h (o + k)) (t % W) d (by omega) (Nat.mod_lt _ W_pos) hd
  rw [hr, he]
  have hup : V (sh (up h (o + k) r) o) k = V (sh h o) k := V_congr fun j hj => by unfold sh; exact up_far h _ (by omega)
  have hat : sh (up h (o + k) r) o k = r := by unfold sh; exact up_at _ _ _
  refine ⟨k + 1, t / W, e, up h (o + k) r, by omega, by rw [show ((k + 1 : Nat) : Int) = (k : Int) + 1 from by omega], rfl, ?_, rfl, he1, hrow.set _ _, ?_, ?_, ?_, grown_set hgr _ _⟩
  · rw [W_eq]; omega
  · intro j hj
    rw [up_far h _ (by omega)]
    exact hsame j (by omega)
  · intro j hj
    by_cases e : j = k
    · rw [e, hat]; exact hrW
    · have : sh (up h (o + k) r) o j = sh h o j := by unfold sh; exact up_far h _ (by omega)
      rw [this]; exact hh j (by omega)
  · rw [V_succ, V_succ, V_succ, hat, hup]
    have : sh h0 o k = h (o + k) := e0.symm
    rw [this]
    exact msub_step _ _ _ hv ht hre
def RetS (w : World) (g0 N o m x : Nat) (g h0 : Nat → Nat) (e : Ending) (w' : World) : Prop :=
  ∃ (d : Nat) (h : Nat → Nat), e = .returned (.bool ((d : Int) != 0)) ∧ d ≤ 1 ∧ Row w' g0 N h ∧ (∀ j, j < o ∨ o + (m + 1) ≤ j → h j = h0 j) ∧ (∀ j, j < m + 1 → sh h o j < W) ∧
    V (sh h o) (m + 1) + x * V g m = V (sh h0 o) (m + 1) + d * W ^ (m + 1) ∧ w.grownBy w' (some g0)
theorem rets_end {w wr w2 : World} {g0 N o m x c d : Nat} {g h0 h : Nat → Nat} (hc : c < 4294967296) (hd : d ≤ 1) (hh0 : h0 (o + m) < 4294967296) (hrow : Row wr g0 N h)
    (hsame : ∀ j, j < o ∨ o + m ≤ j → h j = h0 j) (hh : ∀ j, j < m → sh h o j < W) (hv : V (sh h o) m + x * V g m = V (sh h0 o) m + (c + d) * W ^ m) (hgr : w.grownBy wr (some g0)) {b1 : Value}
    (hb : b1 = .bool (bor ((h (o + m) : Nat) : Int) ((c : Int) + (d : Int)) != 0))
    (hw : w2 = wr.setCell ⟨g0, o + m, none⟩ (.int .u32 ((((h (o + m) : Nat) : Int) - (c : Int) - (d : Int)) % 4294967296))) :
    RetS w g0 N o m x g h0 (.returned b1) w2 := by
  subst hb hw
  have e0 : h (o + m) = h0 (o + m) := hsame _ (Or.inr (Nat.le_refl _))
  obtain ⟨r, e, hr, he, hrW, he1, hre⟩ := dig_sub (h (o + m)) c d (by omega) hc hd
  rw [hr, he]
  have hup : V (sh (up h (o + m) r) o) m = V (sh h o) m := V_congr fun j hj => by unfold sh; exact up_far h _ (by omega)
  have hat : sh (up h (o + m) r) o m = r := by unfold sh; exact up_at _ _ _
  refine ⟨e, up h (o + m) r, rfl, he1, hrow.set _ _, ?_, ?_, ?_, grown_set hgr _ _⟩
  · intro j hj
    rw [up_far h _ (by omega)]
    exact hsame j (by omega)
  · intro j hj
    by_cases e : j = m
    · rw [e, hat]; exact hrW
    · have : sh (up h (o + m) r) o j = sh h o j := by unfold sh; exact up_far h _ (by omega)
      rw [this]; exact hh j (by omega)
  · rw [V_succ, V_succ, hat, hup]
    have : sh h0 o m = h (o + m) := e0.symm
    rw [this, pow_succ']
    have h2 : (r + c + d) * W ^ m = (h (o + m) + e * W) * W ^ m := by rw [hre]
    rw [Nat.add_mul, Nat.add_mul, Nat.add_mul (h (o + m)), Nat.mul_assoc e W, Nat.mul_comm W (W ^ m)] at h2
    rw [Nat.add_mul] at hv
    omega
theorem subM_any (g0 N o ca : Nat) (b off m cb : Nat) (g h0 : Nat → Nat) (x : Nat) (w : World) (_hN : N ≤ 4000000) (hm : m ≤ 1000000) (hoN : o + (m + 1) ≤ N) (hrow : Row w g0 N h0)
    (hne : b ≠ g0) (hb : b < w.heap.size) (hcs : ∀ i, i < m → w.cell? ⟨b, off + i, none⟩ = some (.int .u32 ((g i : Nat) : Int))) (hg : ∀ i, i < m → g i < W) (hh : ∀ i, i < N → h0 i < W) (hx : x < 4294967296) :
    Calls Tryz.prog 293 #[.slice (some ⟨g0, o, none⟩) (m + 1) ca, .slice (some ⟨b, off, none⟩) m cb, .int .u32 (x : Int)] w (RetS w g0 N o m x g h0) := by
  have HG := Lib.hid hg
  have HH0 := Lib.hid hh
  have HCS := Lib.hid hcs
  have HNE := Lib.hid hne
  clear hg hh hcs hne
  go_enter Tryz.func293, Tryz.ntmps293
  go_wp2_with fail
  go_loopw [7, 8, 15] (fun c d i wr => SRel w g0 N o m x g h0 c d i wr) (fun _ _ i _ => m - (intOf i).toNat)
  case atStart => exact srel_start w hrow
  case round =>
    obtain ⟨k, c, d, h, hk, rfl, rfl, hc, rfl, hd, hrow1, hsame, hh, hv, hgr⟩ := hrel
    have HS := Lib.hid hsame
    have HH := Lib.hid hh
    have HV := Lib.hid hv
    clear hh hv hsame
    by_cases hlt : k < m
    · have hc1 : wr.cell? ⟨b, off + k, none⟩ = some (.int .u32 ((g k : Nat) : Int)) := (World.cell?_of_block (w := w) (a := ⟨b, off + k, none⟩) (hgr.block b hb (fun e => HNE.out (by injection e)))).trans (HCS.out k hlt)
      have b1 : g k < 4294967296 := HG.out k hlt
      have b2 : h0 (o + k) < 4294967296 := HH0.out (o + k) (by omega)
      have b3 : h (o + k) < 4294967296 := by rw [HS.out (o + k) (Or.inr (Nat.le_refl _))]; exact b2
      have hcell := hrow1.cell (show o + k < N by omega)
      have hfr := hrow1.frozen (o + k)
      obtain ⟨hp0, hp1⟩ := prod_bounds x (g k) hx b1
      go_wp2_with ((with_reducible refine (sub32_any _ _ _ _ (by omega) (by omega) (by omega) (by omega) (by omega) (by omega)).mono ?_); rintro e w' ⟨rfl, rfl⟩)
      exact ⟨srel_step hlt hc hd hx b1 b2 hrow1 HS.out HH.out HV.out hgr rfl rfl rfl rfl rfl, by simp [intOf]; omega⟩
    · have hke : k = m := by omega
      subst hke
      have b2 : h0 (o + k) < 4294967296 := HH0.out (o + k) (by omega)
      have b3 : h (o + k) < 4294967296 := by rw [HS.out (o + k) (Or.inr (Nat.le_refl _))]; exact b2
      have hcell := hrow1.cell (show o + k < N by omega)
      have hfr := hrow1.frozen (o + k)
      go_wp2_with ((with_reducible refine (sub32_any _ _ _ _ (by omega) (by omega) (by omega) (by omega) (by omega) (by omega)).mono ?_); rintro e w' ⟨rfl, rfl⟩)
      go_ret
      exact rets_end hc hd b2 hrow1 HS.out HH.out HV.out hgr rfl rfl
theorem subM_no (g0 N o ca : Nat) (b off m cb : Nat) (g h0 : Nat → Nat) (x : Nat) (w : World) (hN : N ≤ 4000000) (hm : m ≤ 1000000) (hoN : o + (m + 1) ≤ N) (hrow : Row w g0 N h0)
    (hne : b ≠ g0) (hb : b < w.heap.size) (hcs : ∀ i, i < m → w.cell? ⟨b, off + i, none⟩ = some (.int .u32 ((g i : Nat) : Int))) (hg : ∀ i, i < m → g i < W) (hh : ∀ i, i < N → h0 i < W) (hx : x < 4294967296) (hle : x * V g m ≤ V (sh h0 o) (m + 1)) :
    Calls Tryz.prog 293 #[.slice (some ⟨g0, o, none⟩) (m + 1) ca, .slice (some ⟨b, off, none⟩) m cb, .int .u32 (x : Int)] w fun e w' => ∃ h : Nat → Nat, e = .returned (.bool false) ∧ Row w' g0 N h ∧ (∀ j, j < o ∨ o + (m + 1) ≤ j → h j = h0 j) ∧ (∀ j, j < m + 1 → sh h o j < W) ∧
      V (sh h o) (m + 1) + x * V g m = V (sh h0 o) (m + 1) ∧ w.grownBy w' (some g0) := by
  refine (subM_any g0 N o ca b off m cb g h0 x w hN hm hoN hrow hne hb hcs hg hh hx).mono ?_
  rintro e w' ⟨d, h, rfl, hd, h1, h2, h3, h4, h5⟩
  have hlt := V_lt h3
  have hd0 : d = 0 := by
    rcases Nat.eq_zero_or_pos d with h0 | h0
    · exact h0
    · have := Nat.mul_le_mul_right (W ^ (m + 1)) h0
      omega
  subst hd0
  exact ⟨h, rfl, h1, h2, h3, by omega, h5⟩
theorem subM_yes (g0 N o ca : Nat) (b off m cb : Nat) (g h0 : Nat → Nat) (x : Nat) (w : World) (hN : N ≤ 4000000) (hm : m ≤ 1000000) (hoN : o + (m + 1) ≤ N) (hrow : Row w g0 N h0)
    (hne : b ≠ g0) (hb : b < w.heap.size) (hcs : ∀ i, i < m → w.cell? ⟨b, off + i, none⟩ = some (.int .u32 ((g i : Nat) : Int))) (hg : ∀ i, i < m → g i < W) (hh : ∀ i, i < N → h0 i < W) (hx : x < 4294967296) (hlt : V (sh h0 o) (m + 1) < x * V g m) :
    Calls Tryz.prog 293 #[.slice (some ⟨g0, o, none⟩) (m + 1) ca, .slice (some ⟨b, off, none⟩) m cb, .int .u32 (x : Int)] w fun e w' => ∃ h : Nat → Nat, e = .returned (.bool true) ∧ Row w' g0 N h ∧ (∀ j, j < o ∨ o + (m + 1) ≤ j → h j = h0 j) ∧ (∀ j, j < m + 1 → sh h o j < W) ∧
      V (sh h o) (m + 1) + x * V g m = V (sh h0 o) (m + 1) + W ^ (m + 1) ∧ w.grownBy w' (some g0) := by
  refine (subM_any g0 N o ca b off m cb g h0 x w hN hm hoN hrow hne hb hcs hg hh hx).mono ?_
  rintro e w' ⟨d, h, rfl, hd, h1, h2, h3, h4, h5⟩
  have hd1 : d = 1 := by
    rcases Nat.eq_zero_or_pos d with h0 | h0
    · subst h0; omega
    · omega
  subst hd1
  exact ⟨h, rfl, h1, h2, h3, by omega, h5⟩
theorem addM_one (g0 N o n ca : Nat) (B : Option Addr) (m cb : Nat) (g h0 : Nat → Nat) (w : World) (hN : N ≤ 4000000) (hm : m ≤ 1000000) (hmn : m ≤ n) (hoN : o + n ≤ N) (hrow : Row w g0 N h0) (hB : Dg w B m g)
    (hne : ∀ b off, B = some ⟨b, off, none⟩ → 0 < m → b ≠ g0) (hg : ∀ i, i < m → g i < W) (hh : ∀ i, i < N → h0 i < W) :
    Calls Tryz.prog 269 #[.slice (some ⟨g0, o, none⟩) n ca, .slice B m cb, .int .u32 1] w (RetM w g0 N o m 1 g h0) :=
  addM_any g0 N o n ca B m cb g h0 1 w hN hm hmn hoN hrow hB hne hg hh (by omega)
theorem V3 (f : Nat → Nat) : V f 3 = (f 2 * W + f 1) * W + f 0 := by
  rw [V_succ, V_succ, V_succ, V_zero]
  have e2 : W ^ 2 = W * W := by rw [Nat.pow_succ, Nat.pow_one]
  rw [e2, Nat.pow_one, Nat.pow_zero, Nat.add_mul, Nat.mul_assoc]
  omega
theorem V2 (f : Nat → Nat) : V f 2 = f 1 * W + f 0 := by
  rw [V_succ, V_succ, V_zero, Nat.pow_one, Nat.pow_zero]
  omega
theorem lead3 {u : Nat → Nat} {n : Nat} (hn : 2 ≤ n) (hu : ∀ j, j < n + 1 → u j < W) : (u n * W + u (n - 1)) * W + u (n - 2) = V u (n + 1) / W ^ (n - 2) := by
  have h := V_drop (f := u) (n := n + 1) (i := n - 2) hu (by omega)
  rw [← h, show n + 1 - (n - 2) = 3 from by omega, V3]
  rw [show n - 2 + 2 = n from by omega, show n - 2 + 1 = n - 1 from by omega, Nat.add_zero]
theorem lead2 {g : Nat → Nat} {n : Nat} (hn : 2 ≤ n) (hg : ∀ j, j < n → g j < W) : g (n - 1) * W + g (n - 2) = V g n / W ^ (n - 2) := by
  have h := V_drop (f := g) (n := n) (i := n - 2) hg (by omega)
  rw [← h, show n - (n - 2) = 2 from by omega, V2]
  rw [show n - 2 + 1 = n - 1 from by omega, Nat.add_zero]
theorem top_le {u g : Nat → Nat} {n : Nat} (hn : 2 ≤ n) (hg : ∀ j, j < n → g j < W) (h : V u (n + 1) < W * V g n) : u n ≤ g (n - 1) := by
  obtain ⟨m, rfl⟩ : ∃ m, n = m + 1 := ⟨n - 1, by omega⟩
  rw [Nat.add_sub_cancel]
  rcases Nat.lt_or_ge (g m) (u (m + 1)) with c | c
  · rw [V_succ u, V_succ g] at h
    have h1 : V g m < W ^ m := V_lt fun j hj => hg j (by omega)
    have h2 : (g m + 1) * W ^ (m + 1) ≤ u (m + 1) * W ^ (m + 1) := Nat.mul_le_mul_right _ c
    rw [Nat.add_mul, Nat.one_mul] at h2
    have e : W * (g m * W ^ m) = g m * W ^ (m + 1) := by rw [pow_succ', ← Nat.mul_assoc, Nat.mul_comm W (g m), Nat.mul_assoc, Nat.mul_comm W]
    have e2 : W * V g m < W ^ (m + 1) := by rw [pow_succ', Nat.mul_comm (W ^ m)]; exact Nat.mul_lt_mul_of_pos_left h1 W_pos
    rw [Nat.mul_add] at h
    omega
  · exact c
theorem guess_q {u g : Nat → Nat} {n x : Nat} (hn : 2 ≤ n) (hu : ∀ j, j < n + 1 → u j < W) (hg : ∀ j, j < n → g j < W) (hgn : 0 < g (n - 1)) (h : V u (n + 1) < W * V g n)
    (hx : IsGuess ((u n * W + u (n - 1)) * W + u (n - 2)) (g (n - 1) * W + g (n - 2)) x) : V u (n + 1) < (x + 1) * V g n ∧ x * V g n < V u (n + 1) + V g n := by
  obtain ⟨h1, h2, h3⟩ := hx
  rw [lead3 hn hu, lead2 hn hg] at h2
  rw [lead3 hn hu, lead2 hn hg] at h3
  have hP := pow_pos' (n - 2)
  have hD : W * W ^ (n - 2) ≤ V g n := by
    have := V_low (f := g) (n := n) (by omega) (by omega)
    rw [show n - 1 = (n - 2) + 1 from by omega, pow_succ', Nat.mul_comm] at this
    exact this
  refine ⟨?_, guess_high rfl hP rfl h2 h1 hD⟩
  rcases Nat.lt_or_ge (V u (n + 1)) ((x + 1) * V g n) with c | c
  · exact c
  · exfalso
    have hx1 : x + 1 < W := by
      rcases Nat.lt_or_ge (x + 1) W with g1 | g1
      · exact g1
      · have := Nat.mul_le_mul_right (V g n) g1
        omega
    have h4 : (x + 1) * (V g n / W ^ (n - 2)) ≤ V u (n + 1) / W ^ (n - 2) := by
      rw [Nat.le_div_iff_mul_le hP, Nat.mul_assoc]
      exact Nat.le_trans (Nat.mul_le_mul_left _ (Nat.div_mul_le_self _ _)) c
    have := h3 (x + 1) hx1 h4
    omega
theorem grown_drn {w w' : World} (h : Drn w w') (row : Option Nat) : w.grownBy w' row := by
  obtain ⟨q, rfl⟩ := h
  exact ⟨rfl, rfl, rfl, Nat.le_refl _, fun _ _ _ => rfl⟩
theorem grown_trans {a b c : World} {row : Option Nat} (h : a.grownBy b row) (k : b.grownBy c row) : a.grownBy c row :=
  ⟨k.os.trans h.os, k.tape.trans h.tape, k.output.trans h.output, Nat.le_trans h.size k.size, fun i hi hne => (k.block i (Nat.lt_of_lt_of_le hi h.size) hne).trans (h.block i hi hne)⟩
def RetQ (w : World) (g0 N o n : Nat) (g h0 : Nat → Nat) (e : Ending) (w' : World) : Prop :=
  ∃ (q : Nat) (h : Nat → Nat), e = .returned (.int .u32 (q : Int)) ∧ q = V (sh h0 o) (n + 1) / V g n ∧ q < W ∧ Row w' g0 N h ∧ (∀ j, j < o ∨ o + (n + 1) ≤ j → h j = h0 j) ∧ (∀ j, j < n + 1 → sh h o j < W) ∧
    V (sh h o) (n + 1) = V (sh h0 o) (n + 1) % V g n ∧ w.grownBy w' (some g0)
theorem add_back {F t F1 c U D P x : Nat} (h1 : F + t * P + x * D = U + W * P) (h2 : F1 + c * P = F + D) (hF : F1 < P) (hx1 : (x - 1) * D ≤ U) (hx2 : U < x * D) (hD : D < P) : t + c = W ∧ F1 = U - (x - 1) * D := by
  obtain ⟨y, rfl⟩ : ∃ y, x = y + 1 := ⟨x - 1, by
    rcases Nat.eq_zero_or_pos x with h | h
    · subst h; omega
    · omega⟩
  rw [Nat.add_mul, Nat.one_mul] at h1 hx2
  simp only [Nat.add_sub_cancel] at hx1 ⊢
  have h3 : F1 + (t + c) * P = (U - y * D) + W * P := by rw [Nat.add_mul]; omega
  have e : t + c = W := by
    rcases Nat.lt_trichotomy (t + c) W with g | g | g
    · have := Nat.mul_le_mul_right P (show t + c + 1 ≤ W from g)
      rw [Nat.add_mul, Nat.one_mul] at this
      omega
    · exact g
    · have := Nat.mul_le_mul_right P (show W + 1 ≤ t + c from g)
      rw [Nat.add_mul, Nat.one_mul] at this
      omega
  rw [e] at h3
  exact ⟨e, by omega⟩
theorem q_end {w w2 w3 w4 : World} {g0 N o n x c : Nat} {g h0 h h1 : Nat → Nat} (hx : 0 < x) (hxW : x < 4294967296) (hg : ∀ i, i < n → g i < W)
    (hq : V (sh h0 o) (n + 1) / V g n = x - 1 ∧ V (sh h0 o) (n + 1) % V g n = V (sh h0 o) (n + 1) - (x - 1) * V g n) (hno : ¬ x * V g n ≤ V (sh h0 o) (n + 1)) (hxD : x * V g n < V (sh h0 o) (n + 1) + V g n)
    (r2 : ∀ j, j < o ∨ o + (n + 1) ≤ j → h j = h0 j) (r4 : V (sh h o) (n + 1) + x * V g n = V (sh h0 o) (n + 1) + W ^ (n + 1))
    (hrow : Row w3 g0 N h1) (s1 : ∀ j, j < o ∨ o + n ≤ j → h1 j = h j) (s2 : ∀ j, j < n → sh h1 o j < W) (s3 : V (sh h1 o) n + c * W ^ n = V (sh h o) n + 1 * V g n)
    (hgr : w.grownBy w2 (some g0)) (hgr2 : w2.grownBy w3 (some g0)) {s : Int} {v : Value} (hv : v = .int .u32 ((x : Int) - 1)) (hs : s = ((h (o + n) : Nat) : Int) + (c : Int))
    (hw : Drn (w3.setCell ⟨g0, o + n, none⟩ (.int .u32 (s % 4294967296))) w4) : RetQ w g0 N o n g h0 (.returned v) w4 := by
  subst hv hs
  have hD : V g n < W ^ n := V_lt hg
  have e1 : V (sh h o) (n + 1) = V (sh h o) n + h (o + n) * W ^ n := by rw [V_succ]; rfl
  have hle : (x - 1) * V g n ≤ V (sh h0 o) (n + 1) := by
    have e : x * V g n = (x - 1) * V g n + V g n := by
      obtain ⟨y, rfl⟩ : ∃ y, x = y + 1 := ⟨x - 1, by omega⟩
      rw [Nat.add_mul, Nat.one_mul, Nat.add_sub_cancel]
    omega
  rw [Nat.one_mul] at s3
  have hab := add_back (F := V (sh h o) n) (t := h (o + n)) (F1 := V (sh h1 o) n) (c := c) (U := V (sh h0 o) (n + 1)) (D := V g n) (P := W ^ n) (x := x) (by rw [← e1, r4, pow_succ', Nat.mul_comm (W ^ n)]) s3 (V_lt s2) hle (by omega) hD
  have e2 : ((h (o + n) : Nat) : Int) + (c : Int) = 4294967296 := by have := hab.1; rw [W_eq] at this; omega
  have e3 : (((h (o + n) : Nat) : Int) + (c : Int)) % 4294967296 = ((0 : Nat) : Int) := by rw [e2]; rfl
  rw [e3] at hw
  have hup : V (sh (up h1 (o + n) 0) o) n = V (sh h1 o) n := V_congr fun j hj => by unfold sh; exact up_far h1 _ (by omega)
  have hat : sh (up h1 (o + n) 0) o n = 0 := by unfold sh; exact up_at _ _ _
  refine ⟨x - 1, up h1 (o + n) 0, by rw [show ((x - 1 : Nat) : Int) = (x : Int) - 1 from by omega], hq.1.symm, by rw [W_eq]; omega, hw.row (hrow.set _ _), ?_, ?_, ?_, grown_trans hgr (grown_trans hgr2 (grown_trans (grown_set (World.grownBy.refl _ _) _ _) (grown_drn hw _)))⟩
  · intro j hj
    rw [up_far h1 _ (by omega), s1 j (by omega), r2 j hj]
  · intro j hj
    by_cases e : j = n
    · rw [e, hat]; exact W_pos
    · have : sh (up h1 (o + n) 0) o j = sh h1 o j := by unfold sh; exact up_far h1 _ (by omega)
      rw [this]; exact s2 j (by omega)
  · rw [V_succ, hat, hup, Nat.zero_mul, Nat.add_zero, hab.2, hq.2]
theorem qdig_any (g0 N o ca : Nat) (b off n cb : Nat) (g h0 : Nat → Nat) (w : World) (hN : N ≤ 4000000) (hn : n ≤ 1000000) (hn2 : 2 ≤ n) (hoN : o + (n + 1) ≤ N) (hca : n + 1 ≤ ca) (hrow : Row w g0 N h0)
    (hne : b ≠ g0) (hb : b < w.heap.size) (hcs : ∀ i, i < n → w.cell? ⟨b, off + i, none⟩ = some (.int .u32 ((g i : Nat) : Int))) (hg : ∀ i, i < n → g i < W) (hh : ∀ i, i < N → h0 i < W)
    (htop : 2147483648 ≤ g (n - 1)) (hU : V (sh h0 o) (n + 1) < W * V g n) :
    Calls Tryz.prog 288 #[.slice (some ⟨g0, o, none⟩) (n + 1) ca, .slice (some ⟨b, off, none⟩) n cb] w (RetQ w g0 N o n g h0) := by
  have hsh : ∀ j, j < n + 1 → sh h0 o j < W := fun j hj => hh _ (by omega)
  have HC := Lib.hid (guess_any g0 o b off n ca cb (h0 (o + n)) (h0 (o + (n - 1))) (h0 (o + (n - 2))) (g (n - 1)) (g (n - 2)) w hn hn2 (hrow.cell (by omega)) (hrow.cell (by omega)) (hrow.cell (by omega)) (hcs _ (by omega)) (hcs _ (by omega))
    (hh _ (by omega)) (hh _ (by omega)) (hh _ (by omega)) (hg _ (by omega)) (hg _ (by omega)) htop (top_le hn2 hg hU))
  have HGQ : Hid (∀ x, IsGuess ((h0 (o + n) * W + h0 (o + (n - 1))) * W + h0 (o + (n - 2))) (g (n - 1) * W + g (n - 2)) x → V (sh h0 o) (n + 1) < (x + 1) * V g n ∧ x * V g n < V (sh h0 o) (n + 1) + V g n) :=
    fun x hx => guess_q (u := sh h0 o) hn2 hsh hg (by omega) hU hx
  have HG := Lib.hid hg
  have HH0 := Lib.hid hh
  have HCS := Lib.hid hcs
  have HNE := Lib.hid hne
  clear hg hh hcs hne htop hsh hU
  go_enter Tryz.func288, Tryz.ntmps288
  go_wp2_with fail
  refine HC.out.mono ?_
  rintro e w1 ⟨x, rfl, hx, hdr⟩
  obtain ⟨q1, q2⟩ := HGQ.out x hx
  have hxW : x < 4294967296 := hx.1
  clear HC HGQ hx
  have hrow1 : Row w1 g0 N h0 := hdr.row hrow
  have hgr : Hid (w.grownBy w1 (some g0)) := grown_drn hdr _
  have hcs1 : Hid (∀ i, i < n → w1.cell? ⟨b, off + i, none⟩ = some (.int .u32 ((g i : Nat) : Int))) := fun i hi => (hdr.cell _).trans (HCS.out i hi)
  have hb1 : b < w1.heap.size := by rw [hdr.size]; exact hb
  rcases Nat.eq_zero_or_pos x with h0x | h0x
  · subst h0x
    have HQ1 := Lib.hid q1
    clear q1 q2
    go_wp2_with fail
    go_ret
    rw [Nat.zero_add, Nat.one_mul] at HQ1
    have hd := quotient_of (g := 0) (by rw [Nat.zero_add, Nat.one_mul]; exact HQ1.out) (by omega)
    exact ⟨0, h0, rfl, hd.1.symm, W_pos, hrow1, fun _ _ => rfl, fun j hj => HH0.out _ (by omega), by rw [hd.2]; omega, hgr.out⟩
  · have hxb : ((x : Int) == 0) = false := by rw [beq_eq_false_iff_ne]; omega
    by_cases c : x * V g n ≤ V (sh h0 o) (n + 1)
    · have HQ := Lib.hid (quotient_of q1 c)
      have HC := Lib.hid (subM_no g0 N o ca b off n cb g h0 x w1 hN hn hoN hrow1 HNE.out hb1 hcs1.out HG.out HH0.out hxW c)
      have C := Lib.hid c
      clear q1 q2 c
      go_wp2_with fail
      refine HC.out.mono ?_
      rintro e w2 ⟨h, rfl, r1, r2, r3, r4, r5⟩
      have R2 := Lib.hid r2
      have R3 := Lib.hid r3
      have R4 := Lib.hid r4
      clear r2 r3 r4
      go_wp2_with fail
      go_ret
      exact ⟨x, h, rfl, HQ.out.1.symm, hxW, r1, R2.out, R3.out, by rw [HQ.out.2]; have := R4.out; omega, grown_trans hgr.out r5⟩
    · have HQ := Lib.hid (quotient_of (U := V (sh h0 o) (n + 1)) (D := V g n) (g := x - 1) (by rw [show x - 1 + 1 = x from by omega]; omega) (by
        have e : x * V g n = (x - 1) * V g n + V g n := by
          obtain ⟨y, rfl⟩ : ∃ y, x = y + 1 := ⟨x - 1, by omega⟩
          rw [Nat.add_mul, Nat.one_mul, Nat.add_sub_cancel]
        omega))
      have HC := Lib.hid (subM_yes g0 N o ca b off n cb g h0 x w1 hN hn hoN hrow1 HNE.out hb1 hcs1.out HG.out HH0.out hxW (by omega))
      have C := Lib.hid c
      have Q2 := Lib.hid q2
      clear q1 q2 c
      go_wp2_with fail
      refine HC.out.mono ?_
      rintro e w2 ⟨h, rfl, r1, r2, r3, r4, r5⟩
      have hhN : ∀ i, i < N → h i < W := by
        intro i hi
        by_cases g1 : i < o ∨ o + (n + 1) ≤ i
        · rw [r2 i g1]; exact HH0.out i hi
        · have := r3 (i - o) (by omega)
          unfold sh at this
          rwa [show o + (i - o) = i from by omega] at this
      have hgt : w.grownBy w2 (some g0) := grown_trans hgr.out r5
      have hB2 : Dg w2 (some ⟨b, off, none⟩) n g := fun _ => ⟨b, off, rfl, Nat.lt_of_lt_of_le hb hgt.size, fun i hi => (World.cell?_of_block (w := w) (a := ⟨b, off + i, none⟩) (hgt.block b hb (fun e => HNE.out (by injection e)))).trans (HCS.out i hi)⟩
      have hcell := r1.cell (show o + n < N by omega)
      have hfr := r1.frozen (o + n)
      have HM := Lib.hid (fun (w3 : World) (hw3 : Drn w2 w3) => addM_one g0 N o n ca (some ⟨b, off, none⟩) n cb g h w3 hN hn (Nat.le_refl _) (by omega) (hw3.row r1) (hw3.dg hB2) (fun b' off' e _ => by injection e with e; injection e with e1 e2; rw [← e1]; exact HNE.out) HG.out hhN)
      have HT := Lib.hid (show h (o + n) < 4294967296 from hhN (o + n) (by omega))
      have R2 := Lib.hid r2
      have R3 := Lib.hid r3
      have R4 := Lib.hid r4
      clear r2 r3 r4 hhN
      go_wp2_with fail
      go_region_with ((with_reducible refine (HM.out _ (Drn.more1 (Drn.refl w2))).mono ?_); (rintro e w3 ⟨c, h1, rfl, hc, hrow3, s1, s2, s3, s4⟩); (have hcell3 := (hrow3.cell (show o + n < N by omega)).trans (congrArg (fun z : Nat => some (Value.int IntKind.u32 (z : Int))) (s1 (o + n) (Or.inr (Nat.le_refl _))))); (have hfr3 := hrow3.frozen (o + n)); (have S1 := Lib.hid s1); (have S2 := Lib.hid s2); (have S3 := Lib.hid s3); clear s1 s2 s3)
      all_goals go_wp2_with fail
      all_goals go_ret
      all_goals exact q_end h0x hxW HG.out HQ.out C.out Q2.out R2.out R4.out hrow3 S1.out S2.out S3.out hgt (grown_trans (grown_drn (Drn.refl w2).more1 _) s4) rfl rfl (by first | exact ⟨0, rfl⟩ | exact ⟨1, rfl⟩ | exact ⟨2, rfl⟩)
end Go.Proofs.YtmfnpipmbpnfbaaGreatDoor
