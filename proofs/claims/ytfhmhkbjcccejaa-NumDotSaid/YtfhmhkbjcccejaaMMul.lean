/- The product of two lists of digits in memory. -/
import Derived.Test.YtfhmhkbjcccejaaMPa
import Derived.Deep.AppendLies

namespace Go.Proofs.Ytfhmhkbjcccejaa
open Go.RowKit

/-- The digits from o on. -/
def sh (h : Nat → Nat) (o : Nat) : Nat → Nat := fun j => h (o + j)

/-- What has been added to the row g0 from o on, after k digits. -/
def MRel (w : World) (g0 N o m x : Nat) (g h0 : Nat → Nat) (carry i : Value) (wr : World) : Prop :=
  ∃ (k c : Nat) (h : Nat → Nat), k ≤ m ∧ i = .int .i64 (k : Int) ∧ carry = .int .u64 (c : Int) ∧ c < 4294967296 ∧ Row wr g0 N h ∧ (∀ j, j < o ∨ o + k ≤ j → h j = h0 j) ∧ (∀ j, j < k → sh h o j < W) ∧
    V (sh h o) k + c * W ^ k = V (sh h0 o) k + x * V g k ∧ w.grownBy wr (some g0)

theorem grown_set {w wr : World} {g0 : Nat} (h : w.grownBy wr (some g0)) (o : Nat) (u : Value) : w.grownBy (wr.setCell ⟨g0, o, none⟩ u) (some g0) :=
  ⟨h.os, h.tape, h.output, by simpa [World.setCell] using h.size, fun i hi hne => (Below.heap_setCell _ _ _ i (by
    rintro rfl
    exact hne rfl)).trans (h.block i hi hne)⟩

theorem mrel_start (w : World) {g0 N o m x : Nat} {g h0 : Nat → Nat} (hrow : Row w g0 N h0) : MRel w g0 N o m x g h0 (.int .u64 0) (.int .i64 0) w :=
  ⟨0, 0, h0, Nat.zero_le _, rfl, rfl, by omega, hrow, fun _ _ => rfl, fun j hj => by omega, by simp [V_zero], World.grownBy.refl w _⟩

theorem mrel_step {w wr : World} {g0 N o m x k c : Nat} {g h0 h : Nat → Nat} (hk : k < m) (hc : c < 4294967296) (hx : x < 4294967296) (hg : g k < 4294967296) (hh0 : h0 (o + k) < 4294967296) (hrow : Row wr g0 N h)
    (hsame : ∀ j, j < o ∨ o + k ≤ j → h j = h0 j) (hh : ∀ j, j < k → sh h o j < W) (hv : V (sh h o) k + c * W ^ k = V (sh h0 o) k + x * V g k) (hgr : w.grownBy wr (some g0)) {a s : Int} {i : Value}
    (hs : s = (x : Int) * ((g k : Nat) : Int) + ((h (o + k) : Nat) : Int) + (c : Int)) (ha : a = (k : Int) + 1) (hi : i = .int .i64 a) :
    MRel w g0 N o m x g h0 (.int .u64 (s / 4294967296)) i (wr.setCell ⟨g0, o + k, none⟩ (.int .u32 (s % 4294967296))) := by
  subst hs ha hi
  have e0 : h (o + k) = h0 (o + k) := hsame _ (Or.inr (Nat.le_refl _))
  have hp : x * g k ≤ 4294967295 * 4294967295 := Nat.mul_le_mul (by omega) (by omega)
  obtain ⟨t, ht⟩ : ∃ t, t = x * g k + h (o + k) + c := ⟨_, rfl⟩
  have e1 : (x : Int) * ((g k : Nat) : Int) + ((h (o + k) : Nat) : Int) + (c : Int) = (t : Int) := by rw [ht, Int.natCast_add, Int.natCast_add, Int.natCast_mul]
  rw [e1]
  have e2 : (t : Int) % 4294967296 = ((t % W : Nat) : Int) := by rw [W_eq]; omega
  have e3 : (t : Int) / 4294967296 = ((t / W : Nat) : Int) := by rw [W_eq]; omega
  rw [e2, e3]
  have hup : V (sh (up h (o + k) (t % W)) o) k = V (sh h o) k := V_congr fun j hj => by unfold sh; exact up_far h _ (by omega)
  have hat : sh (up h (o + k) (t % W)) o k = t % W := by unfold sh; exact up_at _ _ _
  refine ⟨k + 1, t / W, up h (o + k) (t % W), by omega, by rw [show ((k + 1 : Nat) : Int) = (k : Int) + 1 from by omega], rfl, ?_, hrow.set _ _, ?_, ?_, ?_, grown_set hgr _ _⟩
  · rw [W_eq]; omega
  · intro j hj
    rw [up_far h _ (by omega)]
    exact hsame j (by omega)
  · intro j hj
    by_cases e : j = k
    · rw [e, hat]; exact Nat.mod_lt _ W_pos
    · have : sh (up h (o + k) (t % W)) o j = sh h o j := by unfold sh; exact up_far h _ (by omega)
      rw [this]; exact hh j (by omega)
  · rw [V_succ, V_succ, V_succ, hat, hup]
    have : sh h0 o k = h (o + k) := e0.symm
    rw [this]
    exact mac_step _ _ hv ht

/-- What addMultiple leaves. -/
def RetM (w : World) (g0 N o m x : Nat) (g h0 : Nat → Nat) (e : Ending) (w' : World) : Prop :=
  ∃ (c : Nat) (h : Nat → Nat), e = .returned (.int .u32 (c : Int)) ∧ c < 4294967296 ∧ Row w' g0 N h ∧ (∀ j, j < o ∨ o + m ≤ j → h j = h0 j) ∧ (∀ j, j < m → sh h o j < W) ∧
    V (sh h o) m + c * W ^ m = V (sh h0 o) m + x * V g m ∧ w.grownBy w' (some g0)

set_option maxRecDepth 100000 in
set_option maxHeartbeats 1000000 in
theorem addM_any (g0 N o n ca : Nat) (B : Option Addr) (m cb : Nat) (g h0 : Nat → Nat) (x : Nat) (w : World) (hN : N ≤ 4000000) (hm : m ≤ 1000000) (hmn : m ≤ n) (hoN : o + n ≤ N) (hrow : Row w g0 N h0) (hB : Dg w B m g)
    (hne : ∀ b off, B = some ⟨b, off, none⟩ → 0 < m → b ≠ g0) (hg : ∀ i, i < m → g i < W) (hh : ∀ i, i < N → h0 i < W) (hx : x < 4294967296) :
    Calls Try.prog 107 #[.slice (some ⟨g0, o, none⟩) n ca, .slice B m cb, .int .u32 (x : Int)] w (RetM w g0 N o m x g h0) := by
  have HG := Lib.hid hg
  have HH0 := Lib.hid hh
  have HNE := Lib.hid hne
  clear hg hh hne
  go_enter Try.func107, Try.ntmps107
  go_wp2_with fail
  go_loopw [7, 13] (fun c i wr => MRel w g0 N o m x g h0 c i wr) (fun _ i _ => m - (intOf i).toNat)
  case atStart => exact mrel_start w hrow
  case round =>
    obtain ⟨k, c, h, hk, rfl, rfl, hc, hrow1, hsame, hh, hv, hgr⟩ := hrel
    have HS := Lib.hid hsame
    have HH := Lib.hid hh
    have HV := Lib.hid hv
    clear hh hv hsame
    by_cases hlt : k < m
    · obtain ⟨b, off, rfl, hb, hcells⟩ := hB (by omega)
      have hbne : b ≠ g0 := HNE.out b off rfl (by omega)
      have hc1 : wr.cell? ⟨b, off + k, none⟩ = some (.int .u32 ((g k : Nat) : Int)) := (World.cell?_of_block (w := w) (a := ⟨b, off + k, none⟩) (hgr.block b hb (fun e => hbne (by injection e)))).trans (hcells k hlt)
      have b1 : g k < 4294967296 := HG.out k hlt
      have b2 : h0 (o + k) < 4294967296 := HH0.out (o + k) (by omega)
      have b3 : h (o + k) < 4294967296 := by rw [HS.out (o + k) (Or.inr (Nat.le_refl _))]; exact b2
      have hcell := hrow1.cell (show o + k < N by omega)
      have hfr := hrow1.frozen (o + k)
      have hp1 : (x : Int) * ((g k : Nat) : Int) ≤ 18446744065119617025 := by
        have : x * g k ≤ 4294967295 * 4294967295 := Nat.mul_le_mul (by omega) (by omega)
        have e : ((x * g k : Nat) : Int) = (x : Int) * ((g k : Nat) : Int) := Int.natCast_mul _ _
        omega
      have hp0 : 0 ≤ (x : Int) * ((g k : Nat) : Int) := by
        have e : ((x * g k : Nat) : Int) = (x : Int) * ((g k : Nat) : Int) := Int.natCast_mul _ _
        omega
      clear hcells hbne
      go_wp2_with fail
      go_roundw
      case rel => exact mrel_step hlt hc hx b1 b2 hrow1 HS.out HH.out HV.out hgr rfl rfl rfl
      case measure => simp [intOf]; omega
    · have hke : k = m := by omega
      go_wp2_with fail
      go_ret
      subst hke
      exact ⟨c, h, rfl, hc, hrow1, HS.out, HH.out, HV.out, hgr⟩

end Go.Proofs.Ytfhmhkbjcccejaa
