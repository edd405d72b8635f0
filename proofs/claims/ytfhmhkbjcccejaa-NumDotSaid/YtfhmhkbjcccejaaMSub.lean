/- The difference of two lists of digits in memory, for the second at most the first. -/
import Derived.Test.YtfhmhkbjcccejaaMPa
import Derived.Deep.RegionWith
import Derived.BigRegion

namespace Go.Proofs.Ytfhmhkbjcccejaa
open Go.RowKit

/-- What has been subtracted after k digits. -/
def SubRel (w : World) (n m : Nat) (f g : Nat → Nat) (borrow i : Value) (wr : World) : Prop :=
  ∃ (k d : Nat) (h : Nat → Nat), k ≤ n ∧ i = .int .i64 (k : Int) ∧ borrow = .int .u32 (d : Int) ∧ d ≤ 1 ∧ (∀ j, j < k → h j < W) ∧ V h k + V (ext g m) k = V f k + d * W ^ k ∧
    Row wr w.heap.size n h ∧ Below w.heap.size w wr

theorem subrel_start (w : World) (n m : Nat) (f g : Nat → Nat) : SubRel w n m f g (.int .u32 0) (.int .i64 0) (w.alloc (.cells (madeCells #[.int .u32 0] n) 98)) :=
  ⟨0, 0, fun _ => 0, Nat.zero_le _, rfl, rfl, by omega, fun j hj => by omega, by simp [V_zero], Row.new w n, (Below.refl _ _).alloc (Nat.le_refl _) _⟩

theorem subrel_step {w wr wd : World} {n m k d : Nat} {f g h : Nat → Nat} (hk : k < n) (hd : d ≤ 1) (hf : f k < W) (hg : ext g m k < W) (hh : ∀ j, j < k → h j < W)
    (hv : V h k + V (ext g m) k = V f k + d * W ^ k) (hrow : Row wr w.heap.size n h) (hbel : Below w.heap.size w wr) {a s t : Int} {i v : Value}
    (hs : s = ((f k : Nat) : Int) - ((ext g m k : Nat) : Int) - (d : Int)) (ht : t = ((ext g m k : Nat) : Int) + (d : Int)) (ha : a = (k : Int) + 1) (hi : i = .int .i64 a)
    (hw : wd = (wr.setCell ⟨w.heap.size, k, none⟩ (.int .u32 (s % 4294967296))).drew) (hb : v = .int .u32 (bor ((f k : Nat) : Int) t)) :
    SubRel w n m f g v i wd := by
  subst hs ht ha hi hw hb
  have hf2 : f k < 4294967296 := hf
  have hg2 : ext g m k < 4294967296 := hg
  obtain ⟨r, hr⟩ := Int.eq_ofNat_of_zero_le (show 0 ≤ (((f k : Nat) : Int) - ((ext g m k : Nat) : Int) - (d : Int)) % 4294967296 by omega)
  obtain ⟨e, he⟩ := Int.eq_ofNat_of_zero_le (bor_01 ((f k : Nat) : Int) (((ext g m k : Nat) : Int) + (d : Int))).1
  have he1 : e ≤ 1 := by have := (bor_01 ((f k : Nat) : Int) (((ext g m k : Nat) : Int) + (d : Int))).2; omega
  have hre : r + ext g m k + d = f k + e * W := by
    unfold bor at he
    rw [W_eq]
    split at he <;> omega
  have hrW : r < W := by rw [W_eq]; omega
  rw [hr, he]
  refine ⟨k + 1, e, up h k r, by omega, by rw [show ((k + 1 : Nat) : Int) = (k : Int) + 1 from by omega], rfl, he1, ?_, ?_, (hrow.set k _).drew, (hbel.setCell (Nat.le_refl _) _).drew⟩
  · intro j hj
    by_cases e : j = k
    · rw [e, up_at]; exact hrW
    · rw [up_far h _ e]; exact hh j (by omega)
  · rw [V_succ, V_succ, V_succ, up_at, V_up_below h _ (Nat.le_refl k)]
    exact sub_step _ _ hv hre

theorem subrel_end {n m k d : Nat} {f g h : Nat → Nat} (hk : k = n) (hm : m ≤ n) (hh : ∀ j, j < k → h j < W) (hle : V g m ≤ V f n)
    (hv : V h k + V (ext g m) k = V f k + d * W ^ k) : V h n = V f n - V g m := by
  subst hk
  rw [V_ext hm] at hv
  have b1 := V_lt hh
  rcases Nat.eq_zero_or_pos d with h0 | h0
  · subst h0; omega
  · have := Nat.mul_le_mul_right (W ^ k) h0
    omega

set_option maxRecDepth 100000 in
set_option maxHeartbeats 1000000 in
theorem sub_any (A B : Option Addr) (n m ca cb : Nat) (f g : Nat → Nat) (w : World) (hn : n ≤ 1000000) (hm : m ≤ n) (hA : Dg w A n f) (hB : Dg w B m g)
    (hf : ∀ i, i < n → f i < W) (hg : ∀ i, i < m → g i < W) (hle : V g m ≤ V f n) :
    Calls Try.prog 97 #[.slice A n ca, .slice B m cb] w (RetD (V f n - V g m) w) := by
  have hmk := make_row n (by omega)
  have HF := Lib.hid hf
  have HG := Lib.hid hg
  have HL := Lib.hid hle
  clear hf hg hle
  go_enter Try.func97, Try.ntmps97
  go_wp2_with fail
  clear hmk
  go_loopw [6, 13] (fun c i wr => SubRel w n m f g c i wr) (fun _ i _ => n - (intOf i).toNat)
  case atStart => exact subrel_start w n m f g
  case round =>
    obtain ⟨k, d, h, hk, rfl, rfl, hd, hh, hv, hrow, hbel⟩ := hrel
    have HH := Lib.hid hh
    have HV := Lib.hid hv
    clear hh hv
    by_cases hlt : k < n
    · obtain ⟨b, off, rfl, hb, hcells⟩ := (hA.keep hbel) (by omega)
      have hc1 := hcells k hlt
      have hB1 : Dg wr B m g := hB.keep hbel
      have b1 : f k < 4294967296 := HF.out k hlt
      have b2 := ext_lt HG.out k
      have hcell := hrow.cell hlt
      have hfr := hrow.frozen k
      clear hcells
      go_wp2_with fail
      go_region_with (first | ((with_reducible refine (at_any B m cb g (k : Int) _ (by omega) (by omega) (by omega) (Dg.drew hB1)).mono ?_); rintro e w' ⟨rfl, rfl⟩) | ((with_reducible refine (sub32_any _ _ _ _ (by omega) (by omega) (by omega) (by omega) (by omega) (by omega)).mono ?_); rintro e w' ⟨rfl, rfl⟩))
      all_goals go_wp2_with fail
      all_goals exact ⟨subrel_step hlt hd (HF.out k hlt) b2 HH.out HV.out hrow hbel rfl rfl rfl rfl rfl rfl, by simp [intOf]; omega⟩
    · have hke : k = n := by omega
      have HE := Lib.hid (subrel_end hke hm HH.out HL.out HV.out)
      have HD := Lib.hid (hrow.dg (Nat.le_refl _))
      have HH2 : Hid (∀ j, j < n → h j < W) := by have := HH.out; rw [hke] at this; exact this
      clear hke HV HH
      go_wp2_with ((with_reducible refine (trim_any _ _ _ h _ (Nat.le_refl _) (by omega) HD.out).mono ?_); rintro e w' ⟨q, rfl, hq, hN, hQ, rfl⟩)
      go_ret
      refine ⟨_, rfl, ⟨_, q, _, h, rfl, by omega, fun i hi => HH2.out i (by omega), hN, hQ.trans HE.out, ?_, hrow.tt _⟩, hbel⟩
      intro h0
      obtain ⟨b, off, e1, e2, e3⟩ := HD.out (by omega)
      exact ⟨b, off, e1, e2, fun i hi => e3 i (by omega)⟩

end Go.Proofs.Ytfhmhkbjcccejaa
