/- The order of two lists of digits in memory; words. -/
import Derived.Test.YtjoanclnaeephaaGreatAdd
import Derived.Deep.RegionWith
import Derived.BigRegion
namespace Go.Proofs.YtjoanclnaeephaaGreat
open Go.RowKit

theorem cmp_int_at (x y r : Int) (w : World) (h : cmpI x y = r) : Calls Tryz.prog 87 #[.int .i64 x, .int .i64 y] w fun e w' => e = .returned (.int .i64 r) ∧ w = w' := by
  rw [← h]; exact cmp_int x y w
theorem cmp_u32_at (x y r : Int) (w : World) (h : cmpI x y = r) : Calls Tryz.prog 88 #[.int .u32 x, .int .u32 y] w fun e w' => e = .returned (.int .i64 r) ∧ w = w' := by
  rw [← h]; exact cmp_u32 x y w

theorem cmpI_lt {x y : Int} (h : x < y) : cmpI x y = -1 := by simp [cmpI, h]
theorem cmpI_gt {x y : Int} (h : y < x) : cmpI x y = 1 := by unfold cmpI; rw [if_neg (by omega), if_pos h]
theorem cmpI_eq (x : Int) : cmpI x x = 0 := by simp [cmpI]

/-- The world differs by draws alone. -/
def Drn (w w' : World) : Prop := ∃ q, w' = w.drewN q
theorem Drn.refl (w : World) : Drn w w := ⟨0, rfl⟩
theorem Drn.cell {w w' : World} (h : Drn w w') (p : Addr) : w'.cell? p = w.cell? p := by obtain ⟨q, rfl⟩ := h; rfl
theorem Drn.more {w w' : World} (h : Drn w w') (n : Nat) : Drn w (w'.drewN n) := by obtain ⟨q, rfl⟩ := h; exact ⟨q + n, by rw [World.drewN_drewN]⟩
theorem Drn.more1 {w w' : World} (h : Drn w w') : Drn w w'.drew := h.more 1
theorem Drn.trans {a b c : World} (h : Drn a b) (k : Drn b c) : Drn a c := by obtain ⟨q, rfl⟩ := k; exact h.more q
theorem Drn.below {w w' : World} (h : Drn w w') (B : Nat) : Below B w w' := by obtain ⟨q, rfl⟩ := h; exact ⟨rfl, rfl, rfl, Nat.le_refl _, fun _ _ => rfl⟩
theorem Drn.size {w w' : World} (h : Drn w w') : w'.heap.size = w.heap.size := by obtain ⟨q, rfl⟩ := h; rfl
theorem Drn.dg {w w' : World} (h : Drn w w') {A : Option Addr} {n : Nat} {f : Nat → Nat} (hd : Dg w A n f) : Dg w' A n f := by obtain ⟨q, rfl⟩ := h; exact hd
theorem Drn.row {w w' : World} (h : Drn w w') {g n : Nat} {f : Nat → Nat} (hd : Row w g n f) : Row w' g n f := by obtain ⟨q, rfl⟩ := h; exact hd
theorem Drn.tt {w w' : World} (h : Drn w w') {A : Option Addr} {n : Nat} (hd : TT w A n) : TT w' A n := by obtain ⟨q, rfl⟩ := h; exact hd
theorem Drn.d {w w' : World} (h : Drn w w') {v : Value} {x : Nat} (hd : D w v x) : D w' v x := by obtain ⟨q, rfl⟩ := h; exact hd

set_option maxRecDepth 100000 in
set_option maxHeartbeats 1000000 in
theorem comp_same (A B : Option Addr) (n ca cb : Nat) (f g : Nat → Nat) (w : World) (hn : n ≤ 1000000) (hA : Dg w A n f) (hB : Dg w B n g)
    (hf : ∀ i, i < n → f i < W) (hg : ∀ i, i < n → g i < W) :
    Calls Tryz.prog 68 #[.slice A n ca, .slice B n cb] w fun e w' => e = .returned (.int .i64 (cmpI (V f n) (V g n))) ∧ Drn w w' := by
  have HF := Lib.hid hf
  have HG := Lib.hid hg
  clear hf hg
  go_enter Tryz.func68, Tryz.ntmps68
  go_wp2_with ((with_reducible refine (cmp_int_at _ _ 0 _ (cmpI_eq _)).mono ?_); rintro e w' ⟨rfl, rfl⟩)
  go_loopw [6] (fun i wr => ∃ k : Nat, k ≤ n ∧ i = .int .i64 ((k : Int) - 1) ∧ Hid (∀ j, k ≤ j → j < n → f j = g j) ∧ Drn w wr) (fun i _ => (intOf i + 1).toNat)
  case atStart => exact ⟨n, Nat.le_refl _, rfl, fun j h1 h2 => by omega, Drn.refl w⟩
  case round =>
    obtain ⟨k, hk, rfl, hs, hq⟩ := hrel
    rcases Nat.eq_zero_or_pos k with h0 | h0
    · subst h0
      have HE : Hid (cmpI (V f n) (V g n) = 0) := by
        have : V f n = V g n := V_congr fun i hi => hs.out i (Nat.zero_le _) hi
        rw [this]; exact cmpI_eq _
      go_wp2_with fail
      go_ret
      exact ⟨by rw [HE.out]; rfl, hq⟩
    · obtain ⟨b, off, rfl, hb, hcells⟩ := hA (by omega)
      obtain ⟨b', off', rfl, hb', hcells'⟩ := hB (by omega)
      obtain ⟨j, rfl⟩ : ∃ j, k = j + 1 := ⟨k - 1, by omega⟩
      have hc1 := (hq.cell ⟨b, off + j, none⟩).trans (hcells j (by omega))
      have hc2 := (hq.cell ⟨b', off' + j, none⟩).trans (hcells' j (by omega))
      have hjn : (j : Int) < (n : Int) := by omega
      clear hcells hcells'
      have ej : (((j + 1 : Nat) : Int) - 1) = (j : Int) := by omega
      rw [ej]
      clear ej h0
      rcases Nat.lt_trichotomy (f j) (g j) with h | h | h
      · have HC := Lib.hid (cmpI_lt (show ((f j : Nat) : Int) < ((g j : Nat) : Int) by omega))
        have HE : Hid (cmpI (V f n) (V g n) = -1) := cmpI_lt (by have := V_lt_of_digit (f := f) (g := g) (n := n) (i := j) (by omega) HF.out (fun i h1 h2 => hs.out i (by omega) h2) h; omega)
        clear h
        go_wp2_with fail
        go_quiet ((go_at_call 88; exact Calls.quiet_of_same ((cmp_u32_at _ _ (-1) _ HC.out).mono fun _ _ hh => ⟨hh.1, hh.2.symm⟩)))
        go_wp2_with fail
        go_ret
        exact ⟨by rw [HE.out]; rfl, hq.more _⟩
      · have HC : Hid (cmpI ((f j : Nat) : Int) ((g j : Nat) : Int) = 0) := by rw [h]; exact cmpI_eq _
        have hs2 : Hid (∀ i, j ≤ i → i < n → f i = g i) := fun i h1 h2 => by
          by_cases e : i = j
          · rw [e]; exact h
          · exact hs.out i (by omega) h2
        clear h
        go_wp2_with fail
        go_quiet ((go_at_call 88; exact Calls.quiet_of_same ((cmp_u32_at _ _ 0 _ HC.out).mono fun _ _ hh => ⟨hh.1, hh.2.symm⟩)))
        go_wp2_with fail
        exact ⟨⟨j, by omega, rfl, hs2, hq.more _⟩, by simp [intOf]⟩
      · have HC := Lib.hid (cmpI_gt (show ((g j : Nat) : Int) < ((f j : Nat) : Int) by omega))
        have HE : Hid (cmpI (V f n) (V g n) = 1) := cmpI_gt (by have := V_lt_of_digit (f := g) (g := f) (n := n) (i := j) (by omega) HG.out (fun i h1 h2 => (hs.out i (by omega) h2).symm) h; omega)
        clear h
        go_wp2_with fail
        go_quiet ((go_at_call 88; exact Calls.quiet_of_same ((cmp_u32_at _ _ 1 _ HC.out).mono fun _ _ hh => ⟨hh.1, hh.2.symm⟩)))
        go_wp2_with fail
        go_ret
        exact ⟨by rw [HE.out]; rfl, hq.more _⟩

set_option maxRecDepth 100000 in
theorem comp_any (A B : Option Addr) (n m ca cb : Nat) (f g : Nat → Nat) (w : World) (hn : n ≤ 1000000) (hA : Dg w A n f) (hB : Dg w B m g)
    (hf : ∀ i, i < n → f i < W) (hg : ∀ i, i < m → g i < W) (hfn : Nrm f n) (hgn : Nrm g m) :
    Calls Tryz.prog 68 #[.slice A n ca, .slice B m cb] w fun e w' => e = .returned (.int .i64 (cmpI (V f n) (V g m))) ∧ Drn w w' := by
  rcases Nat.lt_trichotomy n m with h | h | h
  · have HC := Lib.hid (cmpI_lt (show (n : Int) < (m : Int) by omega))
    have HE : Hid (cmpI (V f n) (V g m) = -1) := cmpI_lt (by have := V_lt_of_len hf hgn h; omega)
    rw [HE.out]
    clear HE hf hg hfn hgn hA hB h
    go_enter Tryz.func68, Tryz.ntmps68
    go_wp2_with ((with_reducible refine (cmp_int_at _ _ (-1) _ HC.out).mono ?_); rintro e w' ⟨rfl, rfl⟩)
    go_ret
    exact ⟨rfl, Drn.refl w⟩
  · subst h
    exact comp_same A B n ca cb f g w hn hA hB hf hg
  · have HC := Lib.hid (cmpI_gt (show (m : Int) < (n : Int) by omega))
    have HE : Hid (cmpI (V f n) (V g m) = 1) := cmpI_gt (by have := V_lt_of_len hg hfn h; omega)
    rw [HE.out]
    clear HE hf hg hfn hgn hA hB h
    go_enter Tryz.func68, Tryz.ntmps68
    go_wp2_with ((with_reducible refine (cmp_int_at _ _ 1 _ HC.out).mono ?_); rintro e w' ⟨rfl, rfl⟩)
    go_ret
    exact ⟨rfl, Drn.refl w⟩

end Go.Proofs.YtjoanclnaeephaaGreat
