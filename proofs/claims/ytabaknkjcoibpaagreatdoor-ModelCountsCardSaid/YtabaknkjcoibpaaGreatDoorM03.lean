/- The product of two lists of digits in memory. The product of two lists of digits in memory, the outer loop. Subtracting a multiple of digits in place. -/
import Derived.Test.YtabaknkjcoibpaaGreatDoorM01
import Derived.Deep.AppendLies
import Derived.Test.YtabaknkjcoibpaaGreatDoorM02

namespace Go.Proofs.YtabaknkjcoibpaaGreatDoor
open Go.RowKit

/-- The digits from o on. -/
def sh (h : Nat → Nat) (o : Nat) : Nat → Nat := fun j => h (o + j)

/-- What has been added to the row g0 from o on, after k digits. -/
def MRel (w : World) (g0 N o m x : Nat) (g h0 : Nat → Nat) (carry i : Value) (wr : World) : Prop :=
  ∃ (k c : Nat) (h : Nat → Nat), k ≤ m ∧ i = .int .i64 (k : Int) ∧ carry = .int .u64 (c : Int) ∧ c < 4294967296 ∧ Row wr g0 N h ∧ (∀ j, j < o ∨ o + k ≤ j → h j = h0 j) ∧ (∀ j, j < k → sh h o j < W) ∧
    V (sh h o) k + c * W ^ k = V (sh h0 o) k + x * V g k ∧ w.grownBy wr (some g0)

theorem grown_set {w wr : World} {g0 : Nat} (h : w.grownBy wr (some g0)) (o : Nat) (u : Value) : w.grownBy (wr.setCell ⟨g0, o, none⟩ u) (some g0) :=
  ⟨h.os, h.tape, h.output, by simpa [World.setCell] using h.size, fun i hi hne => (Below.heap_setCell _ _ _ i (by
    rintro rfl
    exact hne rfl)).trans (h.block i hi hne)⟩

theorem mrel_start (w : World) {g0 N o m x : Nat} {g h0 : Nat → Nat} (hrow : Row w g0 N h0) : MRel w g0 N o m x g h0 (.int .u64 0) (.int .i64 0) w :=
  ⟨0, 0, h0, Nat.zero_le _, rfl, rfl, by omega, hrow, fun _ _ => rfl, fun j hj => by omega, by simp [V_zero], World.grownBy.refl w _⟩

theorem mrel_step {w wr : World} {g0 N o m x k c : Nat} {g h0 h : Nat → Nat} (hk : k < m) (hc : c < 4294967296) (hx : x < 4294967296) (hg : g k < 4294967296) (hh0 : h0 (o + k) < 4294967296) (hrow : Row wr g0 N h)
    (hsame : ∀ j, j < o ∨ o + k ≤ j → h j = h0 j) (hh : ∀ j, j < k → sh h o j < W) (hv : V (sh h o) k + c * W ^ k = V (sh h0 o) k + x * V g k) (hgr : w.grownBy wr (some g0)) {a s : Int} {i : Value}
    (hs : s = (x : Int) * ((g k : Nat) : Int) + ((h (o + k) : Nat) : Int) + (c : Int)) (ha : a = (k : Int) + 1) (hi : i = .int .i64 a) :
    MRel w g0 N o m x g h0 (.int .u64 (s / 4294967296)) i (wr.setCell ⟨g0, o + k, none⟩ (.int .u32 (s % 4294967296))) := by
  subst hs ha hi
  have e0 : h (o + k) = h0 (o + k) := hsame _ (Or.inr (Nat.le_refl _))
  have hp : x * g k ≤ 4294967295 * 4294967295 := Nat.mul_le_mul (by omega) (by omega)
  obtain ⟨t, ht⟩ : ∃ t, t = x * g k + h (o + k) + c := ⟨_, rfl⟩
  have e1 : (x : Int) * ((g k : Nat) : Int) + ((h (o + k) : Nat) : Int) + (c : Int) = (t : Int) := by rw [ht, Int.natCast_add, Int.natCast_add, Int.natCast_mul]
  rw [e1]
  have e2 : (t : Int) % 4294967296 = ((t % W : Nat) : Int) := by rw [W_eq]; omega
  have e3 : (t : Int) / 4294967296 = ((t / W : Nat) : Int) := by rw [W_eq]; omega
  rw [e2, e3]
  have hup : V (sh (up h (o + k) (t % W)) o) k = V (sh h o) k := V_congr fun j hj => by unfold sh; exact up_far h _ (by omega)
  have hat : sh (up h (o + k) (t % W)) o k = t % W := by unfold sh; exact up_at _ _ _
  refine ⟨k + 1, t / W, up h (o + k) (t % W), by omega, by rw [show ((k + 1 : Nat) : Int) = (k : Int) + 1 from by omega], rfl, ?_, hrow.set _ _, ?_, ?_, ?_, grown_set hgr _ _⟩
  · rw [W_eq]; omega
  · intro j hj
    rw [up_far h _ (by omega)]
    exact hsame j (by omega)
  · intro j hj
    by_cases e : j = k
    · rw [e, hat]; exact Nat.mod_lt _ W_pos
    · have : sh (up h (o + k) (t % W)) o j = sh h o j := by unfold sh; exact up_far h _ (by omega)
      rw [this]; exact hh j (by omega)
  · rw [V_succ, V_succ, V_succ, hat, hup]
    have : sh h0 o k = h (o + k) := e0.symm
    rw [this]
    exact mac_step _ _ hv ht

/-- What addMultiple leaves. -/
def RetM (w : World) (g0 N o m x : Nat) (g h0 : Nat → Nat) (e : Ending) (w' : World) : Prop :=
  ∃ (c : Nat) (h : Nat → Nat), e = .returned (.int .u32 (c : Int)) ∧ c < 4294967296 ∧ Row w' g0 N h ∧ (∀ j, j < o ∨ o + m ≤ j → h j = h0 j) ∧ (∀ j, j < m → sh h o j < W) ∧
    V (sh h o) m + c * W ^ m = V (sh h0 o) m + x * V g m ∧ w.grownBy w' (some g0)

set_option maxRecDepth 100000 in
set_option maxHeartbeats 1000000 in
theorem addM_any (g0 N o n ca : Nat) (B : Option Addr) (m cb : Nat) (g h0 : Nat → Nat) (x : Nat) (w : World) (hN : N ≤ 4000000) (hm : m ≤ 1000000) (hmn : m ≤ n) (hoN : o + n ≤ N) (hrow : Row w g0 N h0) (hB : Dg w B m g)
    (hne : ∀ b off, B = some ⟨b, off, none⟩ → 0 < m → b ≠ g0) (hg : ∀ i, i < m → g i < W) (hh : ∀ i, i < N → h0 i < W) (hx : x < 4294967296) :
    Calls Tryz.prog 269 #[.slice (some ⟨g0, o, none⟩) n ca, .slice B m cb, .int .u32 (x : Int)] w (RetM w g0 N o m x g h0) := by
  have HG := Lib.hid hg
  have HH0 := Lib.hid hh
  have HNE := Lib.hid hne
  clear hg hh hne
  go_enter Tryz.func269, Tryz.ntmps269
  go_wp2_with fail
  go_loopw [7, 13] (fun c i wr => MRel w g0 N o m x g h0 c i wr) (fun _ i _ => m - (intOf i).toNat)
  case atStart => exact mrel_start w hrow
  case round =>
    obtain ⟨k, c, h, hk, rfl, rfl, hc, hrow1, hsame, hh, hv, hgr⟩ := hrel
    have HS := Lib.hid hsame
    have HH := Lib.hid hh
    have HV := Lib.hid hv
    clear hh hv hsame
    by_cases hlt : k < m
    · obtain ⟨b, off, rfl, hb, hcells⟩ := hB (by omega)
      have hbne : b ≠ g0 := HNE.out b off rfl (by omega)
      have hc1 : wr.cell? ⟨b, off + k, none⟩ = some (.int .u32 ((g k : Nat) : Int)) := (World.cell?_of_block (w := w) (a := ⟨b, off + k, none⟩) (hgr.block b hb (fun e => hbne (by injection e)))).trans (hcells k hlt)
      have b1 : g k < 4294967296 := HG.out k hlt
      have b2 : h0 (o + k) < 4294967296 := HH0.out (o + k) (by omega)
      have b3 : h (o + k) < 4294967296 := by rw [HS.out (o + k) (Or.inr (Nat.le_refl _))]; exact b2
      have hcell := hrow1.cell (show o + k < N by omega)
      have hfr := hrow1.frozen (o + k)
      have hp1 : (x : Int) * ((g k : Nat) : Int) ≤ 18446744065119617025 := by
        have : x * g k ≤ 4294967295 * 4294967295 := Nat.mul_le_mul (by omega) (by omega)
        have e : ((x * g k : Nat) : Int) = (x : Int) * ((g k : Nat) : Int) := Int.natCast_mul _ _
        omega
      have hp0 : 0 ≤ (x : Int) * ((g k : Nat) : Int) := by
        have e : ((x * g k : Nat) : Int) = (x : Int) * ((g k : Nat) : Int) := Int.natCast_mul _ _
        omega
      clear hcells hbne
      go_wp2_with fail
      go_roundw
      case rel => exact mrel_step hlt hc hx b1 b2 hrow1 HS.out HH.out HV.out hgr rfl rfl rfl
      case measure => simp [intOf]; omega
    · have hke : k = m := by omega
      go_wp2_with fail
      go_ret
      subst hke
      exact ⟨c, h, rfl, hc, hrow1, HS.out, HH.out, HV.out, hgr⟩

end Go.Proofs.YtabaknkjcoibpaaGreatDoor

namespace Go.Proofs.YtabaknkjcoibpaaGreatDoor
open Go.RowKit

/-- What has been multiplied after k digits. -/
def PRel (w : World) (n m : Nat) (f g : Nat → Nat) (i : Value) (wr : World) : Prop :=
  ∃ (k : Nat) (h : Nat → Nat), k ≤ n ∧ i = .int .i64 (k : Int) ∧ Row wr w.heap.size (n + m) h ∧ (∀ j, j < n + m → h j < W) ∧ (∀ j, k + m ≤ j → h j = 0) ∧ V h (k + m) = V f k * V g m ∧ Below w.heap.size w wr

theorem prel_start (w : World) (n m : Nat) (f g : Nat → Nat) : PRel w n m f g (.int .i64 0) (w.alloc (.cells (madeCells #[.int .u32 0] (n + m)) 193)) :=
  ⟨0, fun _ => 0, Nat.zero_le _, rfl, Row.new w _, fun j hj => W_pos, fun j hj => rfl, by rw [V_tail (Nat.zero_le _) (fun _ _ _ => rfl), V_zero, V_zero, Nat.zero_mul], (Below.refl _ _).alloc (Nat.le_refl _) _⟩

theorem prel_step {w wr w1 w2 : World} {n m k c : Nat} {f g h h1 : Nat → Nat} (hk : k < n) (hW : ∀ j, j < n + m → h j < W) (hz : ∀ j, k + m ≤ j → h j = 0) (hv : V h (k + m) = V f k * V g m) (hbel : Below w.heap.size w wr)
    (hc : c < 4294967296) (hrow : Row w1 w.heap.size (n + m) h1) (hsame : ∀ j, j < 0 + k ∨ 0 + k + m ≤ j → h1 j = h j) (hd : ∀ j, j < m → sh h1 (0 + k) j < W) (hm : V (sh h1 (0 + k)) m + c * W ^ m = V (sh h (0 + k)) m + f k * V g m)
    (hgr : wr.grownBy w1 (some w.heap.size)) {a : Int} {i : Value} (ha : a = (k : Int) + 1) (hi : i = .int .i64 a)
    (hw : w2 = w1.setCell ⟨w.heap.size, k + m, none⟩ (.int .u32 (c : Int))) : PRel w n m f g i w2 := by
  subst ha hi hw
  rw [Nat.zero_add] at hsame hd hm
  have hsize : w.heap.size ≤ wr.heap.size := hbel.size
  refine ⟨k + 1, up h1 (k + m) c, by omega, by rw [show ((k + 1 : Nat) : Int) = (k : Int) + 1 from by omega], hrow.set _ _, ?_, ?_, ?_, ?_⟩
  · intro j hj
    by_cases e : j = k + m
    · rw [e, up_at]; exact hc
    · rw [up_far h1 _ e]
      by_cases e1 : j < k ∨ k + m ≤ j
      · rw [hsame j e1]; exact hW j hj
      · have := hd (j - k) (by omega)
        unfold sh at this
        rwa [show k + (j - k) = j from by omega] at this
  · intro j hj
    rw [up_far h1 _ (by omega), hsame j (by omega)]
    exact hz j (by omega)
  · rw [show k + 1 + m = (k + m) + 1 from by omega, V_succ, up_at, V_up_below h1 _ (Nat.le_refl _), V_split, V_succ, Nat.add_mul, ← hv, V_split h k m, Nat.pow_add]
    have e1 : V h1 k = V h k := V_congr fun j hj => hsame j (by omega)
    rw [e1]
    have e2 : W ^ k * (V (sh h1 k) m + c * W ^ m) = W ^ k * (V (sh h k) m + f k * V g m) := by rw [hm]
    unfold sh at e2
    rw [Nat.mul_add, Nat.mul_add] at e2
    have e3 : W ^ k * (c * W ^ m) = c * (W ^ k * W ^ m) := by rw [← Nat.mul_assoc, Nat.mul_comm (W ^ k) c, Nat.mul_assoc]
    have e4 : W ^ k * (f k * V g m) = f k * W ^ k * V g m := by rw [← Nat.mul_assoc, Nat.mul_comm (W ^ k)]
    omega
  · exact (hbel.grown hgr hsize (fun q hq => by injection hq with hq; omega)).setCell (Nat.le_refl _) _

set_option maxRecDepth 100000 in
set_option maxHeartbeats 1000000 in
theorem mul_any (A B : Option Addr) (n m ca cb : Nat) (f g : Nat → Nat) (w : World) (hn : n ≤ 1000000) (hm : m ≤ 1000000) (hA : Dg w A n f) (hB : Dg w B m g)
    (hf : ∀ i, i < n → f i < W) (hg : ∀ i, i < m → g i < W) :
    Calls Tryz.prog 243 #[.slice A n ca, .slice B m cb] w (RetD (V f n * V g m) w) := by
  have hmk := make_row (n + m) (by omega)
  have ec : ((n + m : Nat) : Int) = (n : Int) + m := by omega
  rw [ec] at hmk
  have HF := Lib.hid hf
  have HG := Lib.hid hg
  clear hf hg
  go_enter Tryz.func243, Tryz.ntmps243
  go_wp2_with fail
  clear hmk ec
  go_loopw [17] (fun i wr => PRel w n m f g i wr) (fun i _ => n - (intOf i).toNat)
  case atStart => exact prel_start w n m f g
  case round =>
    obtain ⟨k, h, hk, rfl, hrow, hW, hz, hv, hbel⟩ := hrel
    have HW := Lib.hid hW
    have HZ := Lib.hid hz
    have HV := Lib.hid hv
    clear hW hz hv
    by_cases hlt : k < n
    · obtain ⟨b, off, rfl, hb, hcells⟩ := hA (by omega)
      have hc1 := (hbel.cell (p := ⟨b, off + k, none⟩) hb).trans (hcells k hlt)
      have hB1 : Dg wr B m g := hB.keep hbel
      have hne : Hid (∀ b off, B = some ⟨b, off, none⟩ → 0 < m → b ≠ w.heap.size) := by
        intro b off e h0
        obtain ⟨b', off', e', hb', _⟩ := hB h0
        rw [e] at e'
        injection e' with e'
        injection e' with e'
        omega
      have b1 : f k < 4294967296 := HF.out k hlt
      clear hcells
      go_wp2_with fail
      refine (addM_any w.heap.size (n + m) k m (n + m - k) B m cb g h (f k) wr (by omega) hm (Nat.le_refl _) (by omega) hrow hB1 hne.out HG.out HW.out b1).mono ?_
      rintro e w1 ⟨c, h1, rfl, hc, hrow1, hsame, hd, hmm, hgr⟩
      have HS1 := Lib.hid hsame
      have HD1 := Lib.hid hd
      have HM1 := Lib.hid hmm
      clear hsame hd hmm
      have hcell := hrow1.cell (show k + m < n + m by omega)
      have hfr := hrow1.frozen (k + m)
      go_wp2_with fail
      refine ⟨prel_step hlt HW.out HZ.out HV.out hbel hc hrow1 ?_ ?_ ?_ hgr rfl rfl rfl, by simp [intOf]; omega⟩
      · rw [Nat.zero_add]; exact HS1.out
      · rw [Nat.zero_add]; exact HD1.out
      · rw [Nat.zero_add]; exact HM1.out
    · have hke : k = n := by omega
      have HD := Lib.hid (hrow.dg (Nat.le_refl _))
      have HE : Hid (V h (n + m) = V f n * V g m) := by have := HV.out; rw [hke] at this; exact this
      clear hke HV HZ
      go_wp2_with ((with_reducible refine (trim_any _ _ _ h _ (Nat.le_refl _) (by omega) HD.out).mono ?_); rintro e w' ⟨q, rfl, hq, hN, hQ, rfl⟩)
      go_ret
      refine ⟨_, rfl, ⟨_, q, _, h, rfl, by omega, fun i hi => HW.out i (by omega), hN, hQ.trans HE.out, ?_, hrow.tt _⟩, hbel⟩
      intro h0
      obtain ⟨b, off, e1, e2, e3⟩ := HD.out (by omega)
      exact ⟨b, off, e1, e2, fun i hi => e3 i (by omega)⟩

end Go.Proofs.YtabaknkjcoibpaaGreatDoor

namespace Go.Proofs.YtabaknkjcoibpaaGreatDoor
open Go.RowKit

/-- What has been subtracted from the row g0 from o on, after k digits. -/
def SRel (w : World) (g0 N o m x : Nat) (g h0 : Nat → Nat) (carry borrow i : Value) (wr : World) : Prop :=
  ∃ (k c d : Nat) (h : Nat → Nat), k ≤ m ∧ i = .int .i64 (k : Int) ∧ carry = .int .u64 (c : Int) ∧ c < 4294967296 ∧ borrow = .int .u32 (d : Int) ∧ d ≤ 1 ∧ Row wr g0 N h ∧ (∀ j, j < o ∨ o + k ≤ j → h j = h0 j) ∧ (∀ j, j < k → sh h o j < W) ∧
    V (sh h o) k + x * V g k = V (sh h0 o) k + (c + d) * W ^ k ∧ w.grownBy wr (some g0)

theorem srel_start (w : World) {g0 N o m x : Nat} {g h0 : Nat → Nat} (hrow : Row w g0 N h0) : SRel w g0 N o m x g h0 (.int .u64 0) (.int .u32 0) (.int .i64 0) w :=
  ⟨0, 0, 0, h0, Nat.zero_le _, rfl, rfl, by omega, rfl, by omega, hrow, fun _ _ => rfl, fun j hj => by omega, by simp [V_zero], World.grownBy.refl w _⟩

theorem grown_drew {w wr : World} {row : Option Nat} (h : w.grownBy wr row) : w.grownBy wr.drew row := ⟨h.os, h.tape, h.output, h.size, h.block⟩

/-- A difference of three digits. -/
theorem dig_sub (a y d : Nat) (ha : a < 4294967296) (hy : y < 4294967296) (hd : d ≤ 1) : ∃ r e : Nat, ((a : Int) - (y : Int) - (d : Int)) % 4294967296 = (r : Int) ∧ bor (a : Int) ((y : Int) + (d : Int)) = (e : Int) ∧ r < W ∧ e ≤ 1 ∧ r + y + d = a + e * W := by
  obtain ⟨r, hr⟩ := Int.eq_ofNat_of_zero_le (show 0 ≤ ((a : Int) - (y : Int) - (d : Int)) % 4294967296 by omega)
  obtain ⟨e, he⟩ := Int.eq_ofNat_of_zero_le (bor_01 (a : Int) ((y : Int) + (d : Int))).1
  have he1 : e ≤ 1 := by have := (bor_01 (a : Int) ((y : Int) + (d : Int))).2; omega
  refine ⟨r, e, hr, he, by rw [W_eq]; omega, he1, ?_⟩
  unfold bor at he
  rw [W_eq]
  split at he <;> omega

theorem srel_step {w wr w2 : World} {g0 N o m x k c d : Nat} {g h0 h : Nat → Nat} (hk : k < m) (hc : c < 4294967296) (hd : d ≤ 1) (hx : x < 4294967296) (hg : g k < 4294967296) (hh0 : h0 (o + k) < 4294967296) (hrow : Row wr g0 N h)
    (hsame : ∀ j, j < o ∨ o + k ≤ j → h j = h0 j) (hh : ∀ j, j < k → sh h o j < W) (hv : V (sh h o) k + x * V g k = V (sh h0 o) k + (c + d) * W ^ k) (hgr : w.grownBy wr (some g0)) {a s : Int} {i b1 : Value}
    (hs : s = (x : Int) * ((g k : Nat) : Int) + (c : Int)) (ha : a = (k : Int) + 1) (hi : i = .int .i64 a) (hb : b1 = .int .u32 (bor ((h (o + k) : Nat) : Int) (s % 4294967296 + (d : Int))))
    (hw : w2 = wr.setCell ⟨g0, o + k, none⟩ (.int .u32 ((((h (o + k) : Nat) : Int) - s % 4294967296 - (d : Int)) % 4294967296))) :
    SRel w g0 N o m x g h0 (.int .u64 (s / 4294967296)) b1 i w2 := by
  subst hs ha hi hb hw
  have e0 : h (o + k) = h0 (o + k) := hsame _ (Or.inr (Nat.le_refl _))
  have hp : x * g k ≤ 4294967295 * 4294967295 := Nat.mul_le_mul (by omega) (by omega)
  obtain ⟨t, ht⟩ : ∃ t, t = x * g k + c := ⟨_, rfl⟩
  have e1 : (x : Int) * ((g k : Nat) : Int) + (c : Int) = (t : Int) := by rw [ht, Int.natCast_add, Int.natCast_mul]
  rw [e1]
  have e2 : (t : Int) % 4294967296 = ((t % W : Nat) : Int) := by rw [W_eq]; omega
  have e3 : (t : Int) / 4294967296 = ((t / W : Nat) : Int) := by rw [W_eq]; omega
  rw [e2, e3]
  obtain ⟨r, e, hr, he, hrW, he1, hre⟩ := dig_sub (h (o + k)) (t % W) d (by omega) (Nat.mod_lt _ W_pos) hd
  rw [hr, he]
  have hup : V (sh (up h (o + k) r) o) k = V (sh h o) k := V_congr fun j hj => by unfold sh; exact up_far h _ (by omega)
  have hat : sh (up h (o + k) r) o k = r := by unfold sh; exact up_at _ _ _
  refine ⟨k + 1, t / W, e, up h (o + k) r, by omega, by rw [show ((k + 1 : Nat) : Int) = (k : Int) + 1 from by omega], rfl, ?_, rfl, he1, hrow.set _ _, ?_, ?_, ?_, grown_set hgr _ _⟩
  · rw [W_eq]; omega
  · intro j hj
    rw [up_far h _ (by omega)]
    exact hsame j (by omega)
  · intro j hj
    by_cases e : j = k
    · rw [e, hat]; exact hrW
    · have : sh (up h (o + k) r) o j = sh h o j := by unfold sh; exact up_far h _ (by omega)
      rw [this]; exact hh j (by omega)
  · rw [V_succ, V_succ, V_succ, hat, hup]
    have : sh h0 o k = h (o + k) := e0.symm
    rw [this]
    exact msub_step _ _ _ hv ht hre

/-- What subtractMultiple leaves. -/
def RetS (w : World) (g0 N o m x : Nat) (g h0 : Nat → Nat) (e : Ending) (w' : World) : Prop :=
  ∃ (d : Nat) (h : Nat → Nat), e = .returned (.bool ((d : Int) != 0)) ∧ d ≤ 1 ∧ Row w' g0 N h ∧ (∀ j, j < o ∨ o + (m + 1) ≤ j → h j = h0 j) ∧ (∀ j, j < m + 1 → sh h o j < W) ∧
    V (sh h o) (m + 1) + x * V g m = V (sh h0 o) (m + 1) + d * W ^ (m + 1) ∧ w.grownBy w' (some g0)

theorem rets_end {w wr w2 : World} {g0 N o m x c d : Nat} {g h0 h : Nat → Nat} (hc : c < 4294967296) (hd : d ≤ 1) (hh0 : h0 (o + m) < 4294967296) (hrow : Row wr g0 N h)
    (hsame : ∀ j, j < o ∨ o + m ≤ j → h j = h0 j) (hh : ∀ j, j < m → sh h o j < W) (hv : V (sh h o) m + x * V g m = V (sh h0 o) m + (c + d) * W ^ m) (hgr : w.grownBy wr (some g0)) {b1 : Value}
    (hb : b1 = .bool (bor ((h (o + m) : Nat) : Int) ((c : Int) + (d : Int)) != 0))
    (hw : w2 = wr.setCell ⟨g0, o + m, none⟩ (.int .u32 ((((h (o + m) : Nat) : Int) - (c : Int) - (d : Int)) % 4294967296))) :
    RetS w g0 N o m x g h0 (.returned b1) w2 := by
  subst hb hw
  have e0 : h (o + m) = h0 (o + m) := hsame _ (Or.inr (Nat.le_refl _))
  obtain ⟨r, e, hr, he, hrW, he1, hre⟩ := dig_sub (h (o + m)) c d (by omega) hc hd
  rw [hr, he]
  have hup : V (sh (up h (o + m) r) o) m = V (sh h o) m := V_congr fun j hj => by unfold sh; exact up_far h _ (by omega)
  have hat : sh (up h (o + m) r) o m = r := by unfold sh; exact up_at _ _ _
  refine ⟨e, up h (o + m) r, rfl, he1, hrow.set _ _, ?_, ?_, ?_, grown_set hgr _ _⟩
  · intro j hj
    rw [up_far h _ (by omega)]
    exact hsame j (by omega)
  · intro j hj
    by_cases e : j = m
    · rw [e, hat]; exact hrW
    · have : sh (up h (o + m) r) o j = sh h o j := by unfold sh; exact up_far h _ (by omega)
      rw [this]; exact hh j (by omega)
  · rw [V_succ, V_succ, hat, hup]
    have : sh h0 o m = h (o + m) := e0.symm
    rw [this, pow_succ']
    have h2 : (r + c + d) * W ^ m = (h (o + m) + e * W) * W ^ m := by rw [hre]
    rw [Nat.add_mul, Nat.add_mul, Nat.add_mul (h (o + m)), Nat.mul_assoc e W, Nat.mul_comm W (W ^ m)] at h2
    rw [Nat.add_mul] at hv
    omega

set_option maxRecDepth 100000 in
set_option maxHeartbeats 2000000 in
theorem subM_any (g0 N o ca : Nat) (b off m cb : Nat) (g h0 : Nat → Nat) (x : Nat) (w : World) (_hN : N ≤ 4000000) (hm : m ≤ 1000000) (hoN : o + (m + 1) ≤ N) (hrow : Row w g0 N h0)
    (hne : b ≠ g0) (hb : b < w.heap.size) (hcs : ∀ i, i < m → w.cell? ⟨b, off + i, none⟩ = some (.int .u32 ((g i : Nat) : Int))) (hg : ∀ i, i < m → g i < W) (hh : ∀ i, i < N → h0 i < W) (hx : x < 4294967296) :
    Calls Tryz.prog 293 #[.slice (some ⟨g0, o, none⟩) (m + 1) ca, .slice (some ⟨b, off, none⟩) m cb, .int .u32 (x : Int)] w (RetS w g0 N o m x g h0) := by
  have HG := Lib.hid hg
  have HH0 := Lib.hid hh
  have HCS := Lib.hid hcs
  have HNE := Lib.hid hne
  clear hg hh hcs hne
  go_enter Tryz.func293, Tryz.ntmps293
  go_wp2_with fail
  go_loopw [7, 8, 15] (fun c d i wr => SRel w g0 N o m x g h0 c d i wr) (fun _ _ i _ => m - (intOf i).toNat)
  case atStart => exact srel_start w hrow
  case round =>
    obtain ⟨k, c, d, h, hk, rfl, rfl, hc, rfl, hd, hrow1, hsame, hh, hv, hgr⟩ := hrel
    have HS := Lib.hid hsame
    have HH := Lib.hid hh
    have HV := Lib.hid hv
    clear hh hv hsame
    by_cases hlt : k < m
    · have hc1 : wr.cell? ⟨b, off + k, none⟩ = some (.int .u32 ((g k : Nat) : Int)) := (World.cell?_of_block (w := w) (a := ⟨b, off + k, none⟩) (hgr.block b hb (fun e => HNE.out (by injection e)))).trans (HCS.out k hlt)
      have b1 : g k < 4294967296 := HG.out k hlt
      have b2 : h0 (o + k) < 4294967296 := HH0.out (o + k) (by omega)
      have b3 : h (o + k) < 4294967296 := by rw [HS.out (o + k) (Or.inr (Nat.le_refl _))]; exact b2
      have hcell := hrow1.cell (show o + k < N by omega)
      have hfr := hrow1.frozen (o + k)
      obtain ⟨hp0, hp1⟩ := prod_bounds x (g k) hx b1
      go_wp2_with ((with_reducible refine (sub32_any _ _ _ _ (by omega) (by omega) (by omega) (by omega) (by omega) (by omega)).mono ?_); rintro e w' ⟨rfl, rfl⟩)
      exact ⟨srel_step hlt hc hd hx b1 b2 hrow1 HS.out HH.out HV.out hgr rfl rfl rfl rfl rfl, by simp [intOf]; omega⟩
    · have hke : k = m := by omega
      subst hke
      have b2 : h0 (o + k) < 4294967296 := HH0.out (o + k) (by omega)
      have b3 : h (o + k) < 4294967296 := by rw [HS.out (o + k) (Or.inr (Nat.le_refl _))]; exact b2
      have hcell := hrow1.cell (show o + k < N by omega)
      have hfr := hrow1.frozen (o + k)
      go_wp2_with ((with_reducible refine (sub32_any _ _ _ _ (by omega) (by omega) (by omega) (by omega) (by omega) (by omega)).mono ?_); rintro e w' ⟨rfl, rfl⟩)
      go_ret
      exact rets_end hc hd b2 hrow1 HS.out HH.out HV.out hgr rfl rfl

theorem subM_no (g0 N o ca : Nat) (b off m cb : Nat) (g h0 : Nat → Nat) (x : Nat) (w : World) (hN : N ≤ 4000000) (hm : m ≤ 1000000) (hoN : o + (m + 1) ≤ N) (hrow : Row w g0 N h0)
    (hne : b ≠ g0) (hb : b < w.heap.size) (hcs : ∀ i, i < m → w.cell? ⟨b, off + i, none⟩ = some (.int .u32 ((g i : Nat) : Int))) (hg : ∀ i, i < m → g i < W) (hh : ∀ i, i < N → h0 i < W) (hx : x < 4294967296) (hle : x * V g m ≤ V (sh h0 o) (m + 1)) :
    Calls Tryz.prog 293 #[.slice (some ⟨g0, o, none⟩) (m + 1) ca, .slice (some ⟨b, off, none⟩) m cb, .int .u32 (x : Int)] w fun e w' => ∃ h : Nat → Nat, e = .returned (.bool false) ∧ Row w' g0 N h ∧ (∀ j, j < o ∨ o + (m + 1) ≤ j → h j = h0 j) ∧ (∀ j, j < m + 1 → sh h o j < W) ∧
      V (sh h o) (m + 1) + x * V g m = V (sh h0 o) (m + 1) ∧ w.grownBy w' (some g0) := by
  refine (subM_any g0 N o ca b off m cb g h0 x w hN hm hoN hrow hne hb hcs hg hh hx).mono ?_
  rintro e w' ⟨d, h, rfl, hd, h1, h2, h3, h4, h5⟩
  have hlt := V_lt h3
  have hd0 : d = 0 := by
    rcases Nat.eq_zero_or_pos d with h0 | h0
    · exact h0
    · have := Nat.mul_le_mul_right (W ^ (m + 1)) h0
      omega
  subst hd0
  exact ⟨h, rfl, h1, h2, h3, by omega, h5⟩

theorem subM_yes (g0 N o ca : Nat) (b off m cb : Nat) (g h0 : Nat → Nat) (x : Nat) (w : World) (hN : N ≤ 4000000) (hm : m ≤ 1000000) (hoN : o + (m + 1) ≤ N) (hrow : Row w g0 N h0)
    (hne : b ≠ g0) (hb : b < w.heap.size) (hcs : ∀ i, i < m → w.cell? ⟨b, off + i, none⟩ = some (.int .u32 ((g i : Nat) : Int))) (hg : ∀ i, i < m → g i < W) (hh : ∀ i, i < N → h0 i < W) (hx : x < 4294967296) (hlt : V (sh h0 o) (m + 1) < x * V g m) :
    Calls Tryz.prog 293 #[.slice (some ⟨g0, o, none⟩) (m + 1) ca, .slice (some ⟨b, off, none⟩) m cb, .int .u32 (x : Int)] w fun e w' => ∃ h : Nat → Nat, e = .returned (.bool true) ∧ Row w' g0 N h ∧ (∀ j, j < o ∨ o + (m + 1) ≤ j → h j = h0 j) ∧ (∀ j, j < m + 1 → sh h o j < W) ∧
      V (sh h o) (m + 1) + x * V g m = V (sh h0 o) (m + 1) + W ^ (m + 1) ∧ w.grownBy w' (some g0) := by
  refine (subM_any g0 N o ca b off m cb g h0 x w hN hm hoN hrow hne hb hcs hg hh hx).mono ?_
  rintro e w' ⟨d, h, rfl, hd, h1, h2, h3, h4, h5⟩
  have hd1 : d = 1 := by
    rcases Nat.eq_zero_or_pos d with h0 | h0
    · subst h0; omega
    · omega
  subst hd1
  exact ⟨h, rfl, h1, h2, h3, by omega, h5⟩

end Go.Proofs.YtabaknkjcoibpaaGreatDoor
