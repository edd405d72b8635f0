/- The product of two lists of digits in memory, the outer loop. -/
import Derived.Test.YtfhmhkbjcccejaaMMul

namespace Go.Proofs.Ytfhmhkbjcccejaa
open Go.RowKit

/-- What has been multiplied after k digits. -/
def PRel (w : World) (n m : Nat) (f g : Nat → Nat) (i : Value) (wr : World) : Prop :=
  ∃ (k : Nat) (h : Nat → Nat), k ≤ n ∧ i = .int .i64 (k : Int) ∧ Row wr w.heap.size (n + m) h ∧ (∀ j, j < n + m → h j < W) ∧ (∀ j, k + m ≤ j → h j = 0) ∧ V h (k + m) = V f k * V g m ∧ Below w.heap.size w wr

theorem prel_start (w : World) (n m : Nat) (f g : Nat → Nat) : PRel w n m f g (.int .i64 0) (w.alloc (.cells (madeCells #[.int .u32 0] (n + m)) 98)) :=
  ⟨0, fun _ => 0, Nat.zero_le _, rfl, Row.new w _, fun j hj => W_pos, fun j hj => rfl, by rw [V_tail (Nat.zero_le _) (fun _ _ _ => rfl), V_zero, V_zero, Nat.zero_mul], (Below.refl _ _).alloc (Nat.le_refl _) _⟩

theorem prel_step {w wr w1 w2 : World} {n m k c : Nat} {f g h h1 : Nat → Nat} (hk : k < n) (hW : ∀ j, j < n + m → h j < W) (hz : ∀ j, k + m ≤ j → h j = 0) (hv : V h (k + m) = V f k * V g m) (hbel : Below w.heap.size w wr)
    (hc : c < 4294967296) (hrow : Row w1 w.heap.size (n + m) h1) (hsame : ∀ j, j < 0 + k ∨ 0 + k + m ≤ j → h1 j = h j) (hd : ∀ j, j < m → sh h1 (0 + k) j < W) (hm : V (sh h1 (0 + k)) m + c * W ^ m = V (sh h (0 + k)) m + f k * V g m)
    (hgr : wr.grownBy w1 (some w.heap.size)) {a : Int} {i : Value} (ha : a = (k : Int) + 1) (hi : i = .int .i64 a)
    (hw : w2 = w1.setCell ⟨w.heap.size, k + m, none⟩ (.int .u32 (c : Int))) : PRel w n m f g i w2 := by
  subst ha hi hw
  rw [Nat.zero_add] at hsame hd hm
  have hsize : w.heap.size ≤ wr.heap.size := hbel.size
  refine ⟨k + 1, up h1 (k + m) c, by omega, by rw [show ((k + 1 : Nat) : Int) = (k : Int) + 1 from by omega], hrow.set _ _, ?_, ?_, ?_, ?_⟩
  · intro j hj
    by_cases e : j = k + m
    · rw [e, up_at]; exact hc
    · rw [up_far h1 _ e]
      by_cases e1 : j < k ∨ k + m ≤ j
      · rw [hsame j e1]; exact hW j hj
      · have := hd (j - k) (by omega)
        unfold sh at this
        rwa [show k + (j - k) = j from by omega] at this
  · intro j hj
    rw [up_far h1 _ (by omega), hsame j (by omega)]
    exact hz j (by omega)
  · rw [show k + 1 + m = (k + m) + 1 from by omega, V_succ, up_at, V_up_below h1 _ (Nat.le_refl _), V_split, V_succ, Nat.add_mul, ← hv, V_split h k m, Nat.pow_add]
    have e1 : V h1 k = V h k := V_congr fun j hj => hsame j (by omega)
    rw [e1]
    have e2 : W ^ k * (V (sh h1 k) m + c * W ^ m) = W ^ k * (V (sh h k) m + f k * V g m) := by rw [hm]
    unfold sh at e2
    rw [Nat.mul_add, Nat.mul_add] at e2
    have e3 : W ^ k * (c * W ^ m) = c * (W ^ k * W ^ m) := by rw [← Nat.mul_assoc, Nat.mul_comm (W ^ k) c, Nat.mul_assoc]
    have e4 : W ^ k * (f k * V g m) = f k * W ^ k * V g m := by rw [← Nat.mul_assoc, Nat.mul_comm (W ^ k)]
    omega
  · exact (hbel.grown hgr hsize (fun q hq => by injection hq with hq; omega)).setCell (Nat.le_refl _) _

set_option maxRecDepth 100000 in
set_option maxHeartbeats 1000000 in
theorem mul_any (A B : Option Addr) (n m ca cb : Nat) (f g : Nat → Nat) (w : World) (hn : n ≤ 1000000) (hm : m ≤ 1000000) (hA : Dg w A n f) (hB : Dg w B m g)
    (hf : ∀ i, i < n → f i < W) (hg : ∀ i, i < m → g i < W) :
    Calls Try.prog 91 #[.slice A n ca, .slice B m cb] w (RetD (V f n * V g m) w) := by
  have hmk := make_row (n + m) (by omega)
  have ec : ((n + m : Nat) : Int) = (n : Int) + m := by omega
  rw [ec] at hmk
  have HF := Lib.hid hf
  have HG := Lib.hid hg
  clear hf hg
  go_enter Try.func91, Try.ntmps91
  go_wp2_with fail
  clear hmk ec
  go_loopw [17] (fun i wr => PRel w n m f g i wr) (fun i _ => n - (intOf i).toNat)
  case atStart => exact prel_start w n m f g
  case round =>
    obtain ⟨k, h, hk, rfl, hrow, hW, hz, hv, hbel⟩ := hrel
    have HW := Lib.hid hW
    have HZ := Lib.hid hz
    have HV := Lib.hid hv
    clear hW hz hv
    by_cases hlt : k < n
    · obtain ⟨b, off, rfl, hb, hcells⟩ := hA (by omega)
      have hc1 := (hbel.cell (p := ⟨b, off + k, none⟩) hb).trans (hcells k hlt)
      have hB1 : Dg wr B m g := hB.keep hbel
      have hne : Hid (∀ b off, B = some ⟨b, off, none⟩ → 0 < m → b ≠ w.heap.size) := by
        intro b off e h0
        obtain ⟨b', off', e', hb', _⟩ := hB h0
        rw [e] at e'
        injection e' with e'
        injection e' with e'
        omega
      have b1 : f k < 4294967296 := HF.out k hlt
      clear hcells
      go_wp2_with fail
      refine (addM_any w.heap.size (n + m) k m (n + m - k) B m cb g h (f k) wr (by omega) hm (Nat.le_refl _) (by omega) hrow hB1 hne.out HG.out HW.out b1).mono ?_
      rintro e w1 ⟨c, h1, rfl, hc, hrow1, hsame, hd, hmm, hgr⟩
      have HS1 := Lib.hid hsame
      have HD1 := Lib.hid hd
      have HM1 := Lib.hid hmm
      clear hsame hd hmm
      have hcell := hrow1.cell (show k + m < n + m by omega)
      have hfr := hrow1.frozen (k + m)
      go_wp2_with fail
      refine ⟨prel_step hlt HW.out HZ.out HV.out hbel hc hrow1 ?_ ?_ ?_ hgr rfl rfl rfl, by simp [intOf]; omega⟩
      · rw [Nat.zero_add]; exact HS1.out
      · rw [Nat.zero_add]; exact HD1.out
      · rw [Nat.zero_add]; exact HM1.out
    · have hke : k = n := by omega
      have HD := Lib.hid (hrow.dg (Nat.le_refl _))
      have HE : Hid (V h (n + m) = V f n * V g m) := by have := HV.out; rw [hke] at this; exact this
      clear hke HV HZ
      go_wp2_with ((with_reducible refine (trim_any _ _ _ h _ (Nat.le_refl _) (by omega) HD.out).mono ?_); rintro e w' ⟨q, rfl, hq, hN, hQ, rfl⟩)
      go_ret
      refine ⟨_, rfl, ⟨_, q, _, h, rfl, by omega, fun i hi => HW.out i (by omega), hN, hQ.trans HE.out, ?_, hrow.tt _⟩, hbel⟩
      intro h0
      obtain ⟨b, off, e1, e2, e3⟩ := HD.out (by omega)
      exact ⟨b, off, e1, e2, fun i hi => e3 i (by omega)⟩

end Go.Proofs.Ytfhmhkbjcccejaa
