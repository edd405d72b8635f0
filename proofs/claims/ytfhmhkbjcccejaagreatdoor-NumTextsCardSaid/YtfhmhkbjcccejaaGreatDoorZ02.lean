/- The product of two lists of digits in memory, the outer loop. The order of two lists of digits in memory; words. Words as digits and back; division of words. Shifts of digits in memory. -/
import Derived.Test.YtfhmhkbjcccejaaGreatDoorZ01
import Derived.Deep.RegionWith
import Derived.BigRegion

namespace Go.Proofs.YtfhmhkbjcccejaaGreatDoor
open Go.RowKit

/-- What has been multiplied after k digits. -/
def PRel (w : World) (n m : Nat) (f g : Nat → Nat) (i : Value) (wr : World) : Prop :=
  ∃ (k : Nat) (h : Nat → Nat), k ≤ n ∧ i = .int .i64 (k : Int) ∧ Row wr w.heap.size (n + m) h ∧ (∀ j, j < n + m → h j < W) ∧ (∀ j, k + m ≤ j → h j = 0) ∧ V h (k + m) = V f k * V g m ∧ Below w.heap.size w wr

theorem prel_start (w : World) (n m : Nat) (f g : Nat → Nat) : PRel w n m f g (.int .i64 0) (w.alloc (.cells (madeCells #[.int .u32 0] (n + m)) 101)) :=
  ⟨0, fun _ => 0, Nat.zero_le _, rfl, Row.new w _, fun j hj => W_pos, fun j hj => rfl, by rw [V_tail (Nat.zero_le _) (fun _ _ _ => rfl), V_zero, V_zero, Nat.zero_mul], (Below.refl _ _).alloc (Nat.le_refl _) _⟩

theorem prel_step {w wr w1 w2 : World} {n m k c : Nat} {f g h h1 : Nat → Nat} (hk : k < n) (hW : ∀ j, j < n + m → h j < W) (hz : ∀ j, k + m ≤ j → h j = 0) (hv : V h (k + m) = V f k * V g m) (hbel : Below w.heap.size w wr)
    (hc : c < 4294967296) (hrow : Row w1 w.heap.size (n + m) h1) (hsame : ∀ j, j < 0 + k ∨ 0 + k + m ≤ j → h1 j = h j) (hd : ∀ j, j < m → sh h1 (0 + k) j < W) (hm : V (sh h1 (0 + k)) m + c * W ^ m = V (sh h (0 + k)) m + f k * V g m)
    (hgr : wr.grownBy w1 (some w.heap.size)) {a : Int} {i : Value} (ha : a = (k : Int) + 1) (hi : i = .int .i64 a)
    (hw : w2 = w1.setCell ⟨w.heap.size, k + m, none⟩ (.int .u32 (c : Int))) : PRel w n m f g i w2 := by
  subst ha hi hw
  rw [Nat.zero_add] at hsame hd hm
  have hsize : w.heap.size ≤ wr.heap.size := hbel.size
  refine ⟨k + 1, up h1 (k + m) c, by omega, by rw [show ((k + 1 : Nat) : Int) = (k : Int) + 1 from by omega], hrow.set _ _, ?_, ?_, ?_, ?_⟩
  · intro j hj
    by_cases e : j = k + m
    · rw [e, up_at]; exact hc
    · rw [up_far h1 _ e]
      by_cases e1 : j < k ∨ k + m ≤ j
      · rw [hsame j e1]; exact hW j hj
      · have := hd (j - k) (by omega)
        unfold sh at this
        rwa [show k + (j - k) = j from by omega] at this
  · intro j hj
    rw [up_far h1 _ (by omega), hsame j (by omega)]
    exact hz j (by omega)
  · rw [show k + 1 + m = (k + m) + 1 from by omega, V_succ, up_at, V_up_below h1 _ (Nat.le_refl _), V_split, V_succ, Nat.add_mul, ← hv, V_split h k m, Nat.pow_add]
    have e1 : V h1 k = V h k := V_congr fun j hj => hsame j (by omega)
    rw [e1]
    have e2 : W ^ k * (V (sh h1 k) m + c * W ^ m) = W ^ k * (V (sh h k) m + f k * V g m) := by rw [hm]
    unfold sh at e2
    rw [Nat.mul_add, Nat.mul_add] at e2
    have e3 : W ^ k * (c * W ^ m) = c * (W ^ k * W ^ m) := by rw [← Nat.mul_assoc, Nat.mul_comm (W ^ k) c, Nat.mul_assoc]
    have e4 : W ^ k * (f k * V g m) = f k * W ^ k * V g m := by rw [← Nat.mul_assoc, Nat.mul_comm (W ^ k)]
    omega
  · exact (hbel.grown hgr hsize (fun q hq => by injection hq with hq; omega)).setCell (Nat.le_refl _) _

set_option maxRecDepth 100000 in
set_option maxHeartbeats 1000000 in
theorem mul_any (A B : Option Addr) (n m ca cb : Nat) (f g : Nat → Nat) (w : World) (hn : n ≤ 1000000) (hm : m ≤ 1000000) (hA : Dg w A n f) (hB : Dg w B m g)
    (hf : ∀ i, i < n → f i < W) (hg : ∀ i, i < m → g i < W) :
    Calls Tryz.prog 53 #[.slice A n ca, .slice B m cb] w (RetD (V f n * V g m) w) := by
  have hmk := make_row (n + m) (by omega)
  have ec : ((n + m : Nat) : Int) = (n : Int) + m := by omega
  rw [ec] at hmk
  have HF := Lib.hid hf
  have HG := Lib.hid hg
  clear hf hg
  go_enter Tryz.func53, Tryz.ntmps53
  go_wp2_with fail
  clear hmk ec
  go_loopw [17] (fun i wr => PRel w n m f g i wr) (fun i _ => n - (intOf i).toNat)
  case atStart => exact prel_start w n m f g
  case round =>
    obtain ⟨k, h, hk, rfl, hrow, hW, hz, hv, hbel⟩ := hrel
    have HW := Lib.hid hW
    have HZ := Lib.hid hz
    have HV := Lib.hid hv
    clear hW hz hv
    by_cases hlt : k < n
    · obtain ⟨b, off, rfl, hb, hcells⟩ := hA (by omega)
      have hc1 := (hbel.cell (p := ⟨b, off + k, none⟩) hb).trans (hcells k hlt)
      have hB1 : Dg wr B m g := hB.keep hbel
      have hne : Hid (∀ b off, B = some ⟨b, off, none⟩ → 0 < m → b ≠ w.heap.size) := by
        intro b off e h0
        obtain ⟨b', off', e', hb', _⟩ := hB h0
        rw [e] at e'
        injection e' with e'
        injection e' with e'
        omega
      have b1 : f k < 4294967296 := HF.out k hlt
      clear hcells
      go_wp2_with fail
      refine (addM_any w.heap.size (n + m) k m (n + m - k) B m cb g h (f k) wr (by omega) hm (Nat.le_refl _) (by omega) hrow hB1 hne.out HG.out HW.out b1).mono ?_
      rintro e w1 ⟨c, h1, rfl, hc, hrow1, hsame, hd, hmm, hgr⟩
      have HS1 := Lib.hid hsame
      have HD1 := Lib.hid hd
      have HM1 := Lib.hid hmm
      clear hsame hd hmm
      have hcell := hrow1.cell (show k + m < n + m by omega)
      have hfr := hrow1.frozen (k + m)
      go_wp2_with fail
      refine ⟨prel_step hlt HW.out HZ.out HV.out hbel hc hrow1 ?_ ?_ ?_ hgr rfl rfl rfl, by simp [intOf]; omega⟩
      · rw [Nat.zero_add]; exact HS1.out
      · rw [Nat.zero_add]; exact HD1.out
      · rw [Nat.zero_add]; exact HM1.out
    · have hke : k = n := by omega
      have HD := Lib.hid (hrow.dg (Nat.le_refl _))
      have HE : Hid (V h (n + m) = V f n * V g m) := by have := HV.out; rw [hke] at this; exact this
      clear hke HV HZ
      go_wp2_with ((with_reducible refine (trim_any _ _ _ h _ (Nat.le_refl _) (by omega) HD.out).mono ?_); rintro e w' ⟨q, rfl, hq, hN, hQ, rfl⟩)
      go_ret
      refine ⟨_, rfl, ⟨_, q, _, h, rfl, by omega, fun i hi => HW.out i (by omega), hN, hQ.trans HE.out, ?_, hrow.tt _⟩, hbel⟩
      intro h0
      obtain ⟨b, off, e1, e2, e3⟩ := HD.out (by omega)
      exact ⟨b, off, e1, e2, fun i hi => e3 i (by omega)⟩

end Go.Proofs.YtfhmhkbjcccejaaGreatDoor

namespace Go.Proofs.YtfhmhkbjcccejaaGreatDoor
open Go.RowKit

theorem cmp_int_at (x y r : Int) (w : World) (h : cmpI x y = r) : Calls Tryz.prog 106 #[.int .i64 x, .int .i64 y] w fun e w' => e = .returned (.int .i64 r) ∧ w = w' := by
  rw [← h]; exact cmp_int x y w
theorem cmp_u32_at (x y r : Int) (w : World) (h : cmpI x y = r) : Calls Tryz.prog 107 #[.int .u32 x, .int .u32 y] w fun e w' => e = .returned (.int .i64 r) ∧ w = w' := by
  rw [← h]; exact cmp_u32 x y w

theorem cmpI_lt {x y : Int} (h : x < y) : cmpI x y = -1 := by simp [cmpI, h]
theorem cmpI_gt {x y : Int} (h : y < x) : cmpI x y = 1 := by unfold cmpI; rw [if_neg (by omega), if_pos h]
theorem cmpI_eq (x : Int) : cmpI x x = 0 := by simp [cmpI]

/-- The world differs by draws alone. -/
def Drn (w w' : World) : Prop := ∃ q, w' = w.drewN q
theorem Drn.refl (w : World) : Drn w w := ⟨0, rfl⟩
theorem Drn.cell {w w' : World} (h : Drn w w') (p : Addr) : w'.cell? p = w.cell? p := by obtain ⟨q, rfl⟩ := h; rfl
theorem Drn.more {w w' : World} (h : Drn w w') (n : Nat) : Drn w (w'.drewN n) := by obtain ⟨q, rfl⟩ := h; exact ⟨q + n, by rw [World.drewN_drewN]⟩
theorem Drn.more1 {w w' : World} (h : Drn w w') : Drn w w'.drew := h.more 1
theorem Drn.trans {a b c : World} (h : Drn a b) (k : Drn b c) : Drn a c := by obtain ⟨q, rfl⟩ := k; exact h.more q
theorem Drn.below {w w' : World} (h : Drn w w') (B : Nat) : Below B w w' := by obtain ⟨q, rfl⟩ := h; exact ⟨rfl, rfl, rfl, Nat.le_refl _, fun _ _ => rfl⟩
theorem Drn.size {w w' : World} (h : Drn w w') : w'.heap.size = w.heap.size := by obtain ⟨q, rfl⟩ := h; rfl
theorem Drn.dg {w w' : World} (h : Drn w w') {A : Option Addr} {n : Nat} {f : Nat → Nat} (hd : Dg w A n f) : Dg w' A n f := by obtain ⟨q, rfl⟩ := h; exact hd
theorem Drn.row {w w' : World} (h : Drn w w') {g n : Nat} {f : Nat → Nat} (hd : Row w g n f) : Row w' g n f := by obtain ⟨q, rfl⟩ := h; exact hd
theorem Drn.tt {w w' : World} (h : Drn w w') {A : Option Addr} {n : Nat} (hd : TT w A n) : TT w' A n := by obtain ⟨q, rfl⟩ := h; exact hd
theorem Drn.d {w w' : World} (h : Drn w w') {v : Value} {x : Nat} (hd : D w v x) : D w' v x := by obtain ⟨q, rfl⟩ := h; exact hd

set_option maxRecDepth 100000 in
set_option maxHeartbeats 1000000 in
theorem comp_same (A B : Option Addr) (n ca cb : Nat) (f g : Nat → Nat) (w : World) (hn : n ≤ 1000000) (hA : Dg w A n f) (hB : Dg w B n g)
    (hf : ∀ i, i < n → f i < W) (hg : ∀ i, i < n → g i < W) :
    Calls Tryz.prog 80 #[.slice A n ca, .slice B n cb] w fun e w' => e = .returned (.int .i64 (cmpI (V f n) (V g n))) ∧ Drn w w' := by
  have HF := Lib.hid hf
  have HG := Lib.hid hg
  clear hf hg
  go_enter Tryz.func80, Tryz.ntmps80
  go_wp2_with ((with_reducible refine (cmp_int_at _ _ 0 _ (cmpI_eq _)).mono ?_); rintro e w' ⟨rfl, rfl⟩)
  go_loopw [6] (fun i wr => ∃ k : Nat, k ≤ n ∧ i = .int .i64 ((k : Int) - 1) ∧ Hid (∀ j, k ≤ j → j < n → f j = g j) ∧ Drn w wr) (fun i _ => (intOf i + 1).toNat)
  case atStart => exact ⟨n, Nat.le_refl _, rfl, fun j h1 h2 => by omega, Drn.refl w⟩
  case round =>
    obtain ⟨k, hk, rfl, hs, hq⟩ := hrel
    rcases Nat.eq_zero_or_pos k with h0 | h0
    · subst h0
      have HE : Hid (cmpI (V f n) (V g n) = 0) := by
        have : V f n = V g n := V_congr fun i hi => hs.out i (Nat.zero_le _) hi
        rw [this]; exact cmpI_eq _
      go_wp2_with fail
      go_ret
      exact ⟨by rw [HE.out]; rfl, hq⟩
    · obtain ⟨b, off, rfl, hb, hcells⟩ := hA (by omega)
      obtain ⟨b', off', rfl, hb', hcells'⟩ := hB (by omega)
      obtain ⟨j, rfl⟩ : ∃ j, k = j + 1 := ⟨k - 1, by omega⟩
      have hc1 := (hq.cell ⟨b, off + j, none⟩).trans (hcells j (by omega))
      have hc2 := (hq.cell ⟨b', off' + j, none⟩).trans (hcells' j (by omega))
      have hjn : (j : Int) < (n : Int) := by omega
      clear hcells hcells'
      have ej : (((j + 1 : Nat) : Int) - 1) = (j : Int) := by omega
      rw [ej]
      clear ej h0
      rcases Nat.lt_trichotomy (f j) (g j) with h | h | h
      · have HC := Lib.hid (cmpI_lt (show ((f j : Nat) : Int) < ((g j : Nat) : Int) by omega))
        have HE : Hid (cmpI (V f n) (V g n) = -1) := cmpI_lt (by have := V_lt_of_digit (f := f) (g := g) (n := n) (i := j) (by omega) HF.out (fun i h1 h2 => hs.out i (by omega) h2) h; omega)
        clear h
        go_wp2_with fail
        go_quiet ((go_at_call 107; exact Calls.quiet_of_same ((cmp_u32_at _ _ (-1) _ HC.out).mono fun _ _ hh => ⟨hh.1, hh.2.symm⟩)))
        go_wp2_with fail
        go_ret
        exact ⟨by rw [HE.out]; rfl, hq.more _⟩
      · have HC : Hid (cmpI ((f j : Nat) : Int) ((g j : Nat) : Int) = 0) := by rw [h]; exact cmpI_eq _
        have hs2 : Hid (∀ i, j ≤ i → i < n → f i = g i) := fun i h1 h2 => by
          by_cases e : i = j
          · rw [e]; exact h
          · exact hs.out i (by omega) h2
        clear h
        go_wp2_with fail
        go_quiet ((go_at_call 107; exact Calls.quiet_of_same ((cmp_u32_at _ _ 0 _ HC.out).mono fun _ _ hh => ⟨hh.1, hh.2.symm⟩)))
        go_wp2_with fail
        exact ⟨⟨j, by omega, rfl, hs2, hq.more _⟩, by simp [intOf]⟩
      · have HC := Lib.hid (cmpI_gt (show ((g j : Nat) : Int) < ((f j : Nat) : Int) by omega))
        have HE : Hid (cmpI (V f n) (V g n) = 1) := cmpI_gt (by have := V_lt_of_digit (f := g) (g := f) (n := n) (i := j) (by omega) HG.out (fun i h1 h2 => (hs.out i (by omega) h2).symm) h; omega)
        clear h
        go_wp2_with fail
        go_quiet ((go_at_call 107; exact Calls.quiet_of_same ((cmp_u32_at _ _ 1 _ HC.out).mono fun _ _ hh => ⟨hh.1, hh.2.symm⟩)))
        go_wp2_with fail
        go_ret
        exact ⟨by rw [HE.out]; rfl, hq.more _⟩

set_option maxRecDepth 100000 in
theorem comp_any (A B : Option Addr) (n m ca cb : Nat) (f g : Nat → Nat) (w : World) (hn : n ≤ 1000000) (hA : Dg w A n f) (hB : Dg w B m g)
    (hf : ∀ i, i < n → f i < W) (hg : ∀ i, i < m → g i < W) (hfn : Nrm f n) (hgn : Nrm g m) :
    Calls Tryz.prog 80 #[.slice A n ca, .slice B m cb] w fun e w' => e = .returned (.int .i64 (cmpI (V f n) (V g m))) ∧ Drn w w' := by
  rcases Nat.lt_trichotomy n m with h | h | h
  · have HC := Lib.hid (cmpI_lt (show (n : Int) < (m : Int) by omega))
    have HE : Hid (cmpI (V f n) (V g m) = -1) := cmpI_lt (by have := V_lt_of_len hf hgn h; omega)
    rw [HE.out]
    clear HE hf hg hfn hgn hA hB h
    go_enter Tryz.func80, Tryz.ntmps80
    go_wp2_with ((with_reducible refine (cmp_int_at _ _ (-1) _ HC.out).mono ?_); rintro e w' ⟨rfl, rfl⟩)
    go_ret
    exact ⟨rfl, Drn.refl w⟩
  · subst h
    exact comp_same A B n ca cb f g w hn hA hB hf hg
  · have HC := Lib.hid (cmpI_gt (show (m : Int) < (n : Int) by omega))
    have HE : Hid (cmpI (V f n) (V g m) = 1) := cmpI_gt (by have := V_lt_of_len hg hfn h; omega)
    rw [HE.out]
    clear HE hf hg hfn hgn hA hB h
    go_enter Tryz.func80, Tryz.ntmps80
    go_wp2_with ((with_reducible refine (cmp_int_at _ _ 1 _ HC.out).mono ?_); rintro e w' ⟨rfl, rfl⟩)
    go_ret
    exact ⟨rfl, Drn.refl w⟩

end Go.Proofs.YtfhmhkbjcccejaaGreatDoor

namespace Go.Proofs.YtfhmhkbjcccejaaGreatDoor
open Go.RowKit

theorem two_row (w : World) (a b : Nat) {p q : Int} (hp : p = (a : Int)) (hq : q = (b : Int)) : Row (w.alloc (.cells #[.int .u32 p, .int .u32 q] 101)) w.heap.size 2 (fun j => if j = 0 then a else b) := by
  subst hp hq
  refine World.rowIs_alloc w #[.int .u32 (a : Int), .int .u32 (b : Int)] 101 _ ?_
  intro i hi
  match i, hi with
  | 0, _ => rfl
  | 1, _ => rfl

theorem word_any (x : Nat) (w : World) (hx : x < 18446744073709551616) : Calls Tryz.prog 52 #[.int .u64 (x : Int)] w (RetD x w) := by
  have e1 : (x : Int) % 4294967296 = ((x % 4294967296 : Nat) : Int) := by omega
  have e2 : (x : Int) / 4294967296 = ((x / 4294967296 : Nat) : Int) := by omega
  have HR := Lib.hid (two_row w (x % 4294967296) (x / 4294967296) e1 e2)
  have HX := Lib.hid hx
  clear e1 e2
  go_enter Tryz.func52, Tryz.ntmps52
  go_wp2_with fail
  refine (trim_any _ _ _ _ _ (Nat.le_refl _) (by omega) (HR.out.dg (Nat.le_refl _))).mono ?_
  rintro e w' ⟨q, rfl, hq, hN, hQ, rfl⟩
  go_wp2_with fail
  go_ret
  refine ⟨_, rfl, ⟨_, q, _, _, rfl, by omega, fun i hi => ?_, hN, hQ.trans ?_, ?_, HR.out.tt _⟩, (Below.refl _ _).alloc (Nat.le_refl _) _⟩
  · show (if i = 0 then _ else _) < W
    have := HX.out
    rw [W_eq]
    split <;> omega
  · simp [V_succ, V_zero, W_eq]; omega
  · intro h0
    obtain ⟨b, off, e1, e2, e3⟩ := HR.out.dg (Nat.le_refl _) (by omega)
    exact ⟨b, off, e1, e2, fun i hi => e3 i (by omega)⟩

set_option maxRecDepth 100000 in
theorem wordm_any (A : Option Addr) (n ca : Nat) (f : Nat → Nat) (w : World) (hn : n ≤ 2) (hA : Dg w A n f) (hf : ∀ i, i < n → f i < W) :
    Calls Tryz.prog 81 #[.slice A n ca] w fun e w' => e = .returned (.int .u64 ((V f n : Nat) : Int)) ∧ w = w' := by
  have HF := Lib.hid hf
  clear hf
  go_enter Tryz.func81, Tryz.ntmps81
  go_wp2_with fail
  go_loop [3, 8] (fun v i => ∃ k : Nat, k ≤ n ∧ i = .int .i64 (k : Int) ∧ v = .int .u64 ((V f k : Nat) : Int)) (fun _ i => n - (intOf i).toNat)
  case atStart => exact ⟨0, Nat.zero_le _, rfl, rfl⟩
  case round =>
    obtain ⟨k, hk, rfl, rfl⟩ := hrel
    by_cases hlt : k < n
    · obtain ⟨b, off, rfl, hb, hcells⟩ := hA (by omega)
      have hc1 := hcells k hlt
      have hfk : f k < 4294967296 := HF.out k hlt
      clear hcells
      have h01 : k = 0 ∨ k = 1 := by omega
      rcases h01 with rfl | rfl
      · have e0 : V f 0 = 0 := rfl
        rw [e0]
        clear e0
        rw [Nat.add_zero] at hc1
        have hor : Hid (bits BinOp.or IntKind.u64 0 ((f 0 : Nat) : Int) = ((V f 1 : Nat) : Int)) := by
          show bits BinOp.or IntKind.u64 ((0 : Nat) : Int) ((f 0 : Nat) : Int) = _
          rw [u64_or_nat 0 (f 0) (by omega) (by omega)]
          simp [V_succ, V_zero]
        go_wp2_with fail
        exact ⟨⟨1, by omega, rfl, by rw [hor.out]⟩, by simp [intOf]; omega⟩
      · have hf0 : V f 1 < 4294967296 := by have := V_lt (f := f) (n := 1) fun i hi => HF.out i (by omega); simpa [W_eq] using this
        have hor : Hid (bits BinOp.or IntKind.u64 ((V f 1 : Nat) : Int) (((f 1 : Nat) : Int) * 4294967296) = ((V f 2 : Nat) : Int)) := by
          have e : ((f 1 : Nat) : Int) * 4294967296 = ((f 1 * 4294967296 : Nat) : Int) := by omega
          rw [e, u64_or_nat _ _ (by omega) (by omega), Nat.or_comm, nat_join 32 _ _ (by omega) (by omega), V_succ f 1, W_eq, Nat.pow_one]
          show ((f 1 * 4294967296 + V f 1 : Nat) : Int) = _
          omega
        go_wp2_with fail
        exact ⟨⟨2, by omega, rfl, by rw [hor.out]⟩, by simp [intOf]; omega⟩
    · have hkn : k = n := by omega
      subst hkn
      go_wp2_with fail
      go_ret
      exact ⟨rfl, rfl⟩

theorem div32_any (x y b : Int) (w : World) (h : 0 ≤ x) (h2 : x < 4294967296) (h3 : 0 ≤ y) (h4 : y < 4294967296) (h5 : 0 < b) (h6 : b < 4294967296) (hx : x < b) :
    Calls Tryz.prog 130 #[.int .u32 x, .int .u32 y, .int .u32 b] w fun e w' => e = .returned (.tuple #[.int .u32 ((x * 4294967296 + y) / b), .int .u32 ((x * 4294967296 + y) % b)]) ∧ Drn w w' := by
  have hb0 : (b != 0) = true := by rw [bne_iff_ne]; omega
  have hbx : decide (b ≤ x) = false := by simp; omega
  have hor : bits BinOp.or IntKind.u64 (x * 4294967296) y = x * 4294967296 + y := by
    rw [u64_or _ _ (by omega) (by omega) h3 (by omega), nat_join 32 _ _ (by omega) (by omega)]
    omega
  have hd0 : 0 ≤ (x * 4294967296 + y) / b := Int.ediv_nonneg (by omega) (by omega)
  have hd1 : (x * 4294967296 + y) / b < 4294967296 := Int.ediv_lt_of_lt_mul h5 (by
    have : (x + 1) * 4294967296 ≤ b * 4294967296 := Int.mul_le_mul_of_nonneg_right (by omega) (by omega)
    rw [Int.mul_comm 4294967296 b]
    omega)
  have hm0 : 0 ≤ (x * 4294967296 + y) % b := Int.emod_nonneg _ (by omega)
  have hm1 : (x * 4294967296 + y) % b < b := Int.emod_lt_of_pos _ h5
  go_enter Tryz.func130, Tryz.ntmps130
  go_wp2_with fail
  go_quiet (fail)
  go_wp2_with fail
  go_ret2
  exact ⟨rfl, (Drn.refl w).more _⟩
end Go.Proofs.YtfhmhkbjcccejaaGreatDoor

namespace Go.Proofs.YtfhmhkbjcccejaaGreatDoor
open Go.RowKit

theorem two_pow_cast (s : Nat) : ((2 ^ s : Nat) : Int) = (2 : Int) ^ s := by rw [Int.natCast_pow]; rfl
theorem two_pow_le (s : Nat) (hs : s < 32) : 2 ^ s ≤ 2147483648 := by
  have : 2 ^ s ≤ 2 ^ 31 := Nat.pow_le_pow_right (by omega) (by omega)
  omega
theorem two_pow_pos (s : Nat) : 0 < 2 ^ s := Nat.pow_pos (by omega)

theorem shl_val (x s : Nat) (hx : x < 4294967296) (hs : s < 32) : IntKind.u64.wrap ((x : Int) * 2 ^ s) = ((x * 2 ^ s : Nat) : Int) := by
  have h1 : x * 2 ^ s ≤ 4294967295 * 2147483648 := Nat.mul_le_mul (by omega) (two_pow_le s hs)
  rw [← two_pow_cast, ← Int.natCast_mul, IntKind.wrap_u64]
  omega

/-- What has been shifted to the left after k digits. -/
def ShlRel (w : World) (n s : Nat) (f : Nat → Nat) (i : Value) (wr : World) : Prop :=
  ∃ (k : Nat) (h : Nat → Nat), k ≤ n ∧ i = .int .i64 (k : Int) ∧ Row wr w.heap.size (n + 1) h ∧ (∀ j, j < n + 1 → h j < W) ∧ (∀ j, k < j → h j = 0) ∧ h k < 2 ^ s ∧ V h (k + 1) = V f k * 2 ^ s ∧ Below w.heap.size w wr

theorem shlrel_start (w : World) (n s : Nat) (f : Nat → Nat) : ShlRel w n s f (.int .i64 0) (w.alloc (.cells (madeCells #[.int .u32 0] (n + 1)) 101)) :=
  ⟨0, fun _ => 0, Nat.zero_le _, rfl, Row.new w _, fun j hj => W_pos, fun j hj => rfl, two_pow_pos s, by simp [V_succ, V_zero], (Below.refl _ _).alloc (Nat.le_refl _) _⟩

theorem shlrel_step {w wr w2 : World} {n s k : Nat} {f h : Nat → Nat} (hs : s < 32) (hk : k < n) (hf : f k < 4294967296) (hrow : Row wr w.heap.size (n + 1) h) (hW : ∀ j, j < n + 1 → h j < W) (hz : ∀ j, k < j → h j = 0)
    (hsm : h k < 2 ^ s) (hv : V h (k + 1) = V f k * 2 ^ s) (hbel : Below w.heap.size w wr) {a : Int} {i : Value} (ha : a = (k : Int) + 1) (hi : i = .int .i64 a)
    (hw : w2 = (wr.setCell ⟨w.heap.size, k, none⟩ (.int .u32 (bits BinOp.or IntKind.u32 ((h k : Nat) : Int) (IntKind.u64.wrap (((f k : Nat) : Int) * 2 ^ s) % 4294967296)))).setCell ⟨w.heap.size, k + 1, none⟩ (.int .u32 (IntKind.u64.wrap (((f k : Nat) : Int) * 2 ^ s) / 4294967296 % 4294967296))) :
    ShlRel w n s f i w2 := by
  subst ha hi hw
  rw [shl_val _ _ hf hs]
  have hp := two_pow_le s hs
  obtain ⟨t, ht⟩ : ∃ t, t = f k * 2 ^ s := ⟨_, rfl⟩
  have htle : t ≤ 4294967295 * 2 ^ s := by rw [ht]; exact Nat.mul_le_mul_right _ (by omega)
  have e1 : ((f k * 2 ^ s : Nat) : Int) % 4294967296 = ((t % 4294967296 : Nat) : Int) := by rw [← ht]; omega
  have e2 : ((f k * 2 ^ s : Nat) : Int) / 4294967296 % 4294967296 = ((t / W : Nat) : Int) := by rw [← ht, W_eq]; omega
  have hmod : t % 4294967296 % 2 ^ s = 0 := by
    have hW2 : (4294967296 : Nat) = 2 ^ s * 2 ^ (32 - s) := W_two s (by omega)
    rw [hW2, Nat.mod_mul_right_mod, ht, Nat.mul_mod_left]
  have hlt : t % 4294967296 + h k < 4294967296 := by
    have hW2 : (4294967296 : Nat) = 2 ^ (32 - s) * 2 ^ s := by rw [Nat.mul_comm]; exact W_two s (by omega)
    have hd : 2 ^ s ∣ t % 4294967296 := Nat.dvd_of_mod_eq_zero hmod
    obtain ⟨q, hq⟩ := hd
    have h1 : t % 4294967296 < 4294967296 := Nat.mod_lt _ (by omega)
    have h2 : q < 2 ^ (32 - s) := by
      rcases Nat.lt_or_ge q (2 ^ (32 - s)) with g | g
      · exact g
      · have := Nat.mul_le_mul_left (2 ^ s) g
        rw [Nat.mul_comm (2 ^ s) (2 ^ (32 - s)), ← hW2] at this
        omega
    have h3 : 2 ^ s * (q + 1) ≤ 2 ^ s * 2 ^ (32 - s) := Nat.mul_le_mul_left _ h2
    rw [Nat.mul_comm (2 ^ s) (2 ^ (32 - s)), ← hW2, Nat.mul_add, Nat.mul_one, ← hq] at h3
    omega
  have e3 : bits BinOp.or IntKind.u32 ((h k : Nat) : Int) ((t % 4294967296 : Nat) : Int) = ((t % W + h k : Nat) : Int) := by
    rw [u32_or_nat _ _ (by omega) (Nat.mod_lt _ (by omega)), Nat.or_comm, nat_join s _ _ hmod hsm]
    rfl
  rw [e1, e2, e3]
  have hq : t / W < 2 ^ s := by rw [W_eq]; omega
  refine ⟨k + 1, up (up h k (t % W + h k)) (k + 1) (t / W), by omega, by rw [show ((k + 1 : Nat) : Int) = (k : Int) + 1 from by omega], (hrow.set _ _).set _ _, ?_, ?_, ?_, ?_, (hbel.setCell (Nat.le_refl _) _).setCell (Nat.le_refl _) _⟩
  · intro j hj
    by_cases g1 : j = k + 1
    · rw [g1, up_at, W_eq]; omega
    · rw [up_far _ _ g1]
      by_cases g2 : j = k
      · rw [g2, up_at]; exact hlt
      · rw [up_far _ _ g2]; exact hW j hj
  · intro j hj
    rw [up_far _ _ (by omega), up_far _ _ (by omega)]; exact hz j (by omega)
  · rw [up_at]; exact hq
  · rw [V_succ, up_at, V_up_below _ _ (Nat.le_refl _), V_succ, up_at, V_up_below _ _ (Nat.le_refl _), V_succ f, ht]
    rw [V_succ] at hv
    exact shl_step hv

/-- What a shift to the left returns: a row of its own, one digit longer. -/
def RetShl (w : World) (n s : Nat) (f : Nat → Nat) (e : Ending) (w' : World) : Prop :=
  ∃ h : Nat → Nat, e = .returned (.slice (some ⟨w.heap.size, 0, none⟩) (n + 1) (n + 1)) ∧ Row w' w.heap.size (n + 1) h ∧ (∀ j, j < n + 1 → h j < W) ∧ V h (n + 1) = V f n * 2 ^ s ∧ Below w.heap.size w w'

set_option maxRecDepth 100000 in
set_option maxHeartbeats 1000000 in
theorem shl_any (A : Option Addr) (n ca s : Nat) (f : Nat → Nat) (w : World) (hn : n ≤ 1000000) (hs : s < 32) (hA : Dg w A n f) (hf : ∀ i, i < n → f i < W) :
    Calls Tryz.prog 132 #[.slice A n ca, .int .i64 (s : Int)] w (RetShl w n s f) := by
  have hmk := make_row (n + 1) (by omega)
  have ec : ((n + 1 : Nat) : Int) = (n : Int) + 1 := by omega
  rw [ec] at hmk
  have HF := Lib.hid hf
  clear hf
  go_enter Tryz.func132, Tryz.ntmps132
  go_wp2_with fail
  clear hmk ec
  go_loopw [15] (fun i wr => ShlRel w n s f i wr) (fun i _ => n - (intOf i).toNat)
  case atStart => exact shlrel_start w n s f
  case round =>
    obtain ⟨k, h, hk, rfl, hrow, hW, hz, hsm, hv, hbel⟩ := hrel
    have HW := Lib.hid hW
    have HZ := Lib.hid hz
    have HV := Lib.hid hv
    have HS := Lib.hid hsm
    clear hW hz hv hsm
    by_cases hlt : k < n
    · obtain ⟨b, off, rfl, hb, hcells⟩ := hA (by omega)
      have hc1 := (hbel.cell (p := ⟨b, off + k, none⟩) hb).trans (hcells k hlt)
      have hfk : f k < 4294967296 := HF.out k hlt
      have hcell := hrow.cell (show k < n + 1 by omega)
      have hfr := hrow.frozen k
      have hcell2 := hrow.cell (show k + 1 < n + 1 by omega)
      have hfr2 := hrow.frozen (k + 1)
      have hhk : h k < 4294967296 := HW.out k (by omega)
      clear hcells
      go_wp2_with fail
      exact ⟨shlrel_step hs hlt hfk hrow HW.out HZ.out HS.out HV.out hbel rfl rfl rfl, by simp [intOf]; omega⟩
    · have hke : k = n := by omega
      subst hke
      go_wp2_with fail
      go_ret
      exact ⟨h, rfl, hrow, HW.out, HV.out, hbel⟩

/-- What has been shifted to the right after k digits. -/
def ShrRel (w : World) (n s X : Nat) (i : Value) (wr : World) : Prop :=
  ∃ (k : Nat) (h : Nat → Nat), k ≤ n ∧ i = .int .i64 (k : Int) ∧ Row wr w.heap.size n h ∧ (∀ j, j < k → h j = X / 2 ^ s / W ^ j % W) ∧ Below w.heap.size w wr

theorem shrrel_start (w : World) (n s X : Nat) : ShrRel w n s X (.int .i64 0) (w.alloc (.cells (madeCells #[.int .u32 0] n) 101)) :=
  ⟨0, fun _ => 0, Nat.zero_le _, rfl, Row.new w _, fun j hj => by omega, (Below.refl _ _).alloc (Nat.le_refl _) _⟩

theorem shrrel_step {w wr w2 : World} {n s X k q : Nat} {f h : Nat → Nat} (hs : s < 32) (hk : k < n) (hf : ∀ i, i < n → f i < W) (hX : X = V f n) (hrow : Row wr w.heap.size n h) (hd : ∀ j, j < k → h j = X / 2 ^ s / W ^ j % W)
    (hbel : Below w.heap.size w wr) {a : Int} {i : Value} (ha : a = (k : Int) + 1) (hi : i = .int .i64 a)
    (hw : w2 = (wr.drewN q).setCell ⟨w.heap.size, k, none⟩ (.int .u32 ((((ext f n (k + 1) : Nat) : Int) * 4294967296 + ((f k : Nat) : Int)) / 2 ^ s % 4294967296))) :
    ShrRel w n s X i w2 := by
  subst ha hi hw
  have hx0 : X / W ^ k % W = f k := by rw [hX]; exact V_digit hf hk
  have hx1 : X / W ^ (k + 1) % W = ext f n (k + 1) := by
    by_cases g : k + 1 < n
    · rw [ext_in g, hX]; exact V_digit hf g
    · have hXW : X < W ^ (k + 1) := by rw [hX, show k + 1 = n from by omega]; exact V_lt hf
      rw [ext_out (by omega), Nat.div_eq_of_lt hXW, Nat.zero_mod]
  obtain ⟨t, ht⟩ : ∃ t, t = X / 2 ^ s / W ^ k % W := ⟨_, rfl⟩
  have e : (((ext f n (k + 1) : Nat) : Int) * 4294967296 + ((f k : Nat) : Int)) / 2 ^ s % 4294967296 = (t : Int) := by
    have h1 := shr_digit X s k hs
    rw [hx0, hx1] at h1
    rw [ht, ← h1, ← two_pow_cast]
    have e1 : ((ext f n (k + 1) : Nat) : Int) * 4294967296 + ((f k : Nat) : Int) = ((f k + W * ext f n (k + 1) : Nat) : Int) := by rw [W_eq]; omega
    rw [e1, ← Int.natCast_ediv, W_eq]
    omega
  rw [e]
  have hrow' : Row (wr.drewN q) w.heap.size n h := hrow.drewN q
  have hbel' : Below w.heap.size w (wr.drewN q) := ⟨hbel.os, hbel.tape, hbel.output, hbel.size, hbel.block⟩
  refine ⟨k + 1, up h k t, by omega, by rw [show ((k + 1 : Nat) : Int) = (k : Int) + 1 from by omega], hrow'.set _ _, ?_, hbel'.setCell (Nat.le_refl _) _⟩
  intro j hj
  by_cases g : j = k
  · rw [g, up_at, ht]
  · rw [up_far _ _ g]; exact hd j (by omega)

set_option maxRecDepth 100000 in
set_option maxHeartbeats 1000000 in
theorem shr_any (A : Option Addr) (n ca s : Nat) (f : Nat → Nat) (w : World) (hn : n ≤ 1000000) (hs : s < 32) (hA : Dg w A n f) (hf : ∀ i, i < n → f i < W) :
    Calls Tryz.prog 134 #[.slice A n ca, .int .i64 (s : Int)] w (RetD (V f n / 2 ^ s) w) := by
  have hmk := make_row n (by omega)
  have HF := Lib.hid hf
  clear hf
  go_enter Tryz.func134, Tryz.ntmps134
  go_wp2_with fail
  clear hmk
  go_loopw [13] (fun i wr => ShrRel w n s (V f n) i wr) (fun i _ => n - (intOf i).toNat)
  case atStart => exact shrrel_start w n s _
  case round =>
    obtain ⟨k, h, hk, rfl, hrow, hd, hbel⟩ := hrel
    have HD := Lib.hid hd
    clear hd
    by_cases hlt : k < n
    · have hA1 : Dg wr A n f := hA.keep hbel
      have hAA := hA1
      obtain ⟨b, off, rfl, hb, hcells⟩ := hA1 (by omega)
      have hc1 := hcells k hlt
      have hfk : f k < 4294967296 := HF.out k hlt
      have hfk1 := ext_lt HF.out (k + 1)
      have hcell := hrow.cell hlt
      have hfr := hrow.frozen k
      have hkn : (k : Int) < (n : Int) := by omega
      clear hcells
      go_wp2_with fail
      have hwr : IntKind.i64.wrap ((k : Int) + 1) = (k : Int) + 1 := IntWalk.i64_in _ (by omega)
      have hor : bits BinOp.or IntKind.u64 (((ext f n (k + 1) : Nat) : Int) * 4294967296) ((f k : Nat) : Int) = ((ext f n (k + 1) : Nat) : Int) * 4294967296 + ((f k : Nat) : Int) := by
        rw [u64_or _ _ (by omega) (by omega) (by omega) (by omega), nat_join 32 _ _ (by omega) (by omega)]
        omega
      have hk1 : ((k : Int) + 1).toNat = k + 1 := by omega
      go_quiet ((go_at_call 79; exact Calls.quiet_of_same ((at_any _ _ _ f _ _ (by omega) (by omega) (by omega) (Dg.drewN hAA _)).mono fun _ _ hh => ⟨hh.1, hh.2.symm⟩)))
      clear hwr hk1 hor
      go_wp2_with fail
      exact ⟨shrrel_step hs hlt HF.out rfl hrow HD.out hbel rfl rfl rfl, by simp [intOf]; omega⟩
    · have hke : k = n := by omega
      have HR := Lib.hid (hrow.dg (Nat.le_refl _))
      have HE : Hid (V h n = V f n / 2 ^ s ∧ ∀ i, i < n → h i < W) := by
        subst hke
        constructor
        · rw [V_congr HD.out, V_digits]
          exact Nat.mod_eq_of_lt (Nat.lt_of_le_of_lt (Nat.div_le_self _ _) (V_lt HF.out))
        · intro i hi
          rw [HD.out i hi]; exact Nat.mod_lt _ W_pos
      clear hke HD
      go_wp2_with ((with_reducible refine (trim_any _ _ _ h _ (Nat.le_refl _) (by omega) HR.out).mono ?_); rintro e w' ⟨q, rfl, hq, hN, hQ, rfl⟩)
      go_ret
      refine ⟨_, rfl, ⟨_, q, _, h, rfl, by omega, fun i hi => HE.out.2 i (by omega), hN, hQ.trans HE.out.1, ?_, hrow.tt _⟩, hbel⟩
      intro h0
      obtain ⟨b, off, e1, e2, e3⟩ := HR.out (by omega)
      exact ⟨b, off, e1, e2, fun i hi => e3 i (by omega)⟩

end Go.Proofs.YtfhmhkbjcccejaaGreatDoor
