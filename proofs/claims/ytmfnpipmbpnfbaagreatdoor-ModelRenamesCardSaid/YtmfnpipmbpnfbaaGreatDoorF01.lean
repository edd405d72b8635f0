/-  -/
import Derived.Test.YtmfnpipmbpnfbaaGreatDoorF00
import Derived.Deep.RegionWith
import Derived.BigRegion

set_option maxRecDepth 100000
set_option maxHeartbeats 40000000
namespace Go.Proofs.YtmfnpipmbpnfbaaGreatDoor
open Go.RowKit
def slen (v : Value) : Nat := match v with | .slice _ k _ => k | _ => 0
theorem trim_any (A : Option Addr) (n c : Nat) (f : Nat → Nat) (w : World) (hn : n ≤ c) (hc : c ≤ 4000000) (hA : Dg w A n f) :
    Calls Tryz.prog 247 #[.slice A n c] w fun e w' => ∃ k, e = .returned (.slice A k c) ∧ k ≤ n ∧ Nrm f k ∧ V f k = V f n ∧ w = w' := by
  go_enter Tryz.func247, Tryz.ntmps247
  go_wp2
  go_loop [0] (fun s => ∃ k : Nat, k ≤ n ∧ s = .slice A k c ∧ Hid (V f k = V f n)) (fun s => slen s)
  case atStart => exact ⟨n, Nat.le_refl _, rfl, rfl⟩
  case round =>
    obtain ⟨k, hk, rfl, hv⟩ := hrel
    rcases Nat.eq_zero_or_pos k with h0 | h0
    · subst h0
      go_wp2
      go_ret
      exact ⟨0, rfl, hk, Or.inl rfl, hv.out, rfl⟩
    · obtain ⟨b, off, hA', hb, hcell⟩ := hA (by omega)
      subst hA'
      have hcell1 := hcell (k - 1) (by omega)
      clear hcell
      by_cases hz : f (k - 1) = 0
      · have hv2 : Hid (V f (k - 1) = V f n) := by
          have := hv.out
          obtain ⟨m, rfl⟩ : ∃ m, k = m + 1 := ⟨k - 1, by omega⟩
          rw [V_succ] at this
          simp only [Nat.add_sub_cancel] at hz ⊢
          show V f m = V f n
          rw [hz] at this; simpa using this
        rw [hz] at hcell1
        clear hz
        go_wp2
        exact ⟨⟨k - 1, by omega, rfl, hv2⟩, by simp [slen]; omega⟩
      · have hz2 : ((f (k - 1) : Int) == 0) = false := by simpa using hz
        have HZ := Lib.hid hz
        clear hz
        go_wp2
        go_ret
        exact ⟨k, rfl, hk, Or.inr HZ.out, hv.out, rfl⟩
def AddRel (w : World) (N n m : Nat) (f g : Nat → Nat) (carry i : Value) (wr : World) : Prop :=
  ∃ (k c : Nat) (h : Nat → Nat), k ≤ N ∧ i = .int .i64 (k : Int) ∧ carry = .int .u64 (c : Int) ∧ c ≤ 1 ∧ (∀ j, j < k → h j < W) ∧ V h k + c * W ^ k = V (ext f n) k + V (ext g m) k ∧
    Row wr w.heap.size N h ∧ Below w.heap.size w wr
theorem addrel_start (w : World) (N n m : Nat) (f g : Nat → Nat) : AddRel w N n m f g (.int .u64 0) (.int .i64 0) (w.alloc (.cells (madeCells #[.int .u32 0] N) 193)) :=
  ⟨0, 0, fun _ => 0, Nat.zero_le _, rfl, rfl, by omega, fun j hj => by omega, by simp [V_zero], Row.new w N, (Below.refl _ _).alloc (Nat.le_refl _) _⟩
theorem addrel_step {w wr : World} {N n m k c : Nat} {f g h : Nat → Nat} (hk : k < N) (hc : c ≤ 1) (hf : ∀ i, i < n → f i < W) (hg : ∀ i, i < m → g i < W) (hh : ∀ j, j < k → h j < W)
    (hv : V h k + c * W ^ k = V (ext f n) k + V (ext g m) k) (hrow : Row wr w.heap.size N h) (hbel : Below w.heap.size w wr) {a s : Int} {i : Value}
    (hs : s = ((ext f n k : Nat) : Int) + ((ext g m k : Nat) : Int) + (c : Int)) (ha : a = (k : Int) + 1) (hi : i = .int .i64 a) :
    AddRel w N n m f g (.int .u64 (s / 4294967296)) i (wr.setCell ⟨w.heap.size, k, none⟩ (.int .u32 (s % 4294967296))) := by
  subst hs ha hi
  have b1 := ext_lt hf k
  have b2 := ext_lt hg k
  obtain ⟨t, ht⟩ : ∃ t, t = ext f n k + ext g m k + c := ⟨_, rfl⟩
  have e1 : ((ext f n k : Nat) : Int) + ((ext g m k : Nat) : Int) + (c : Int) = (t : Int) := by omega
  rw [e1]
  have e2 : (t : Int) % 4294967296 = ((t % W : Nat) : Int) := by rw [W_eq]; omega
  have e3 : (t : Int) / 4294967296 = ((t / W : Nat) : Int) := by rw [W_eq]; omega
  rw [e2, e3]
  refine ⟨k + 1, t / W, up h k (t % W), by omega, by rw [show ((k + 1 : Nat) : Int) = (k : Int) + 1 from by omega], rfl, by rw [W_eq]; omega, ?_, ?_, hrow.set k _, hbel.setCell (Nat.le_refl _) _⟩
  · intro j hj
    by_cases e : j = k
    · rw [e, up_at]; exact Nat.mod_lt _ W_pos
    · rw [up_far h _ e]; exact hh j (by omega)
  · rw [V_succ, V_succ, V_succ, up_at, V_up_below h _ (Nat.le_refl k)]
    exact add_step _ _ hv ht
theorem addrel_end {n m N k c : Nat} {f g h : Nat → Nat} (hk : k = N) (hn : n < N) (hm : m < N) (hf : ∀ i, i < n → f i < W) (hg : ∀ i, i < m → g i < W)
    (hv : V h k + c * W ^ k = V (ext f n) k + V (ext g m) k) : V h N = V f n + V g m := by
  subst hk
  rw [V_ext (by omega), V_ext (by omega)] at hv
  have b1 := V_lt hf
  have b2 := V_lt hg
  obtain ⟨M, rfl⟩ : ∃ M, k = M + 1 := ⟨k - 1, by omega⟩
  have c1 := pow_le (show n ≤ M by omega)
  have c2 := pow_le (show m ≤ M by omega)
  have c3 : W ^ (M + 1) = 4294967296 * W ^ M := by rw [pow_succ', Nat.mul_comm]; rfl
  rcases Nat.eq_zero_or_pos c with h0 | h0
  · subst h0; omega
  · have := Nat.mul_le_mul_right (W ^ (M + 1)) h0
    omega
theorem below_trans_same {a b c : World} (h : Below a.heap.size a b) (k : Below b.heap.size b c) : Below a.heap.size a c := h.trans (k.mono h.size)
theorem add_lt (A B : Option Addr) (n m ca cb : Nat) (f g : Nat → Nat) (w : World) (hnm : n < m) (hn : n ≤ 1000000) (hm : m ≤ 1000000) (hA : Dg w A n f) (hB : Dg w B m g)
    (hf : ∀ i, i < n → f i < W) (hg : ∀ i, i < m → g i < W) :
    Calls Tryz.prog 244 #[.slice A n ca, .slice B m cb] w (RetD (V f n + V g m) w) := by
  have hmk := make_row (m + 1) (by omega)
  have ec : ((m + 1 : Nat) : Int) = (m : Int) + 1 := by omega
  rw [ec] at hmk
  have HF := Lib.hid hf
  have HG := Lib.hid hg
  clear hf hg
  go_enter Tryz.func244, Tryz.ntmps244
  go_wp2_with fail
  clear hmk ec
  go_loopw [6, 18] (fun c i wr => AddRel w (m + 1) n m f g c i wr) (fun _ i _ => m + 1 - (intOf i).toNat)
  case atStart => exact addrel_start w (m + 1) n m f g
  case round =>
    obtain ⟨k, c, h, hk, rfl, rfl, hc, hh, hv, hrow, hbel⟩ := hrel
    have HH := Lib.hid hh
    have HV := Lib.hid hv
    clear hh hv
    by_cases hlt : k < m + 1
    · have hA1 : Dg wr A n f := hA.keep hbel
      have hB1 : Dg wr B m g := hB.keep hbel
      have b1 := ext_lt HF.out k
      have b2 := ext_lt HG.out k
      have hcell := hrow.cell hlt
      have hfr := hrow.frozen k
      go_wp2_with (first | ((with_reducible refine (at_any A n ca f (k : Int) _ (by omega) (by omega) (by omega) hA1).mono ?_); rintro e w' ⟨rfl, rfl⟩) | ((with_reducible refine (at_any B m cb g (k : Int) _ (by omega) (by omega) (by omega) hB1).mono ?_); rintro e w' ⟨rfl, rfl⟩))
      go_roundw
      case rel => exact addrel_step hlt hc HF.out HG.out HH.out HV.out hrow hbel rfl rfl rfl
      case measure => simp [intOf]; omega
    · have hke : k = m + 1 := by omega
      have HE := Lib.hid (addrel_end hke (show n < m + 1 by omega) (show m < m + 1 by omega) HF.out HG.out HV.out)
      have HD := Lib.hid (hrow.dg (Nat.le_refl _))
      have HH2 : Hid (∀ j, j < m + 1 → h j < W) := by have := HH.out; rw [hke] at this; exact this
      clear hke HV HH
      go_wp2_with ((with_reducible refine (trim_any _ _ _ h _ (Nat.le_refl _) (by omega) HD.out).mono ?_); rintro e w' ⟨q, rfl, hq, hN, hQ, rfl⟩)
      go_ret
      refine ⟨_, rfl, ⟨_, q, _, h, rfl, by omega, fun i hi => HH2.out i (by omega), hN, hQ.trans HE.out, ?_, hrow.tt _⟩, hbel⟩
      intro h0
      obtain ⟨b, off, e1, e2, e3⟩ := HD.out (by omega)
      exact ⟨b, off, e1, e2, fun i hi => e3 i (by omega)⟩
theorem add_ge (A B : Option Addr) (n m ca cb : Nat) (f g : Nat → Nat) (w : World) (hnm : ¬ n < m) (hn : n ≤ 1000000) (hm : m ≤ 1000000) (hA : Dg w A n f) (hB : Dg w B m g)
    (hf : ∀ i, i < n → f i < W) (hg : ∀ i, i < m → g i < W) :
    Calls Tryz.prog 244 #[.slice A n ca, .slice B m cb] w (RetD (V f n + V g m) w) := by
  have hmk := make_row (n + 1) (by omega)
  have ec : ((n + 1 : Nat) : Int) = (n : Int) + 1 := by omega
  rw [ec] at hmk
  have HF := Lib.hid hf
  have HG := Lib.hid hg
  clear hf hg
  go_enter Tryz.func244, Tryz.ntmps244
  go_wp2_with fail
  clear hmk ec
  go_loopw [6, 18] (fun c i wr => AddRel w (n + 1) n m f g c i wr) (fun _ i _ => n + 1 - (intOf i).toNat)
  case atStart => exact addrel_start w (n + 1) n m f g
  case round =>
    obtain ⟨k, c, h, hk, rfl, rfl, hc, hh, hv, hrow, hbel⟩ := hrel
    have HH := Lib.hid hh
    have HV := Lib.hid hv
    clear hh hv
    by_cases hlt : k < n + 1
    · have hA1 : Dg wr A n f := hA.keep hbel
      have hB1 : Dg wr B m g := hB.keep hbel
      have b1 := ext_lt HF.out k
      have b2 := ext_lt HG.out k
      have hcell := hrow.cell hlt
      have hfr := hrow.frozen k
      go_wp2_with (first | ((with_reducible refine (at_any A n ca f (k : Int) _ (by omega) (by omega) (by omega) hA1).mono ?_); rintro e w' ⟨rfl, rfl⟩) | ((with_reducible refine (at_any B m cb g (k : Int) _ (by omega) (by omega) (by omega) hB1).mono ?_); rintro e w' ⟨rfl, rfl⟩))
      go_roundw
      case rel => exact addrel_step hlt hc HF.out HG.out HH.out HV.out hrow hbel rfl rfl rfl
      case measure => simp [intOf]; omega
    · have hke : k = n + 1 := by omega
      have HE := Lib.hid (addrel_end hke (show n < n + 1 by omega) (show m < n + 1 by omega) HF.out HG.out HV.out)
      have HD := Lib.hid (hrow.dg (Nat.le_refl _))
      have HH2 : Hid (∀ j, j < n + 1 → h j < W) := by have := HH.out; rw [hke] at this; exact this
      clear hke HV HH
      go_wp2_with ((with_reducible refine (trim_any _ _ _ h _ (Nat.le_refl _) (by omega) HD.out).mono ?_); rintro e w' ⟨q, rfl, hq, hN, hQ, rfl⟩)
      go_ret
      refine ⟨_, rfl, ⟨_, q, _, h, rfl, by omega, fun i hi => HH2.out i (by omega), hN, hQ.trans HE.out, ?_, hrow.tt _⟩, hbel⟩
      intro h0
      obtain ⟨b, off, e1, e2, e3⟩ := HD.out (by omega)
      exact ⟨b, off, e1, e2, fun i hi => e3 i (by omega)⟩
theorem add_any (A B : Option Addr) (n m ca cb : Nat) (f g : Nat → Nat) (w : World) (hn : n ≤ 1000000) (hm : m ≤ 1000000) (hA : Dg w A n f) (hB : Dg w B m g)
    (hf : ∀ i, i < n → f i < W) (hg : ∀ i, i < m → g i < W) :
    Calls Tryz.prog 244 #[.slice A n ca, .slice B m cb] w (RetD (V f n + V g m) w) := by
  by_cases hnm : n < m
  · exact add_lt A B n m ca cb f g w hnm hn hm hA hB hf hg
  · exact add_ge A B n m ca cb f g w hnm hn hm hA hB hf hg
theorem cmp_int_at (x y r : Int) (w : World) (h : cmpI x y = r) : Calls Tryz.prog 112 #[.int .i64 x, .int .i64 y] w fun e w' => e = .returned (.int .i64 r) ∧ w = w' := by
  rw [← h]; exact cmp_int x y w
theorem cmp_u32_at (x y r : Int) (w : World) (h : cmpI x y = r) : Calls Tryz.prog 246 #[.int .u32 x, .int .u32 y] w fun e w' => e = .returned (.int .i64 r) ∧ w = w' := by
  rw [← h]; exact cmp_u32 x y w
theorem cmpI_lt {x y : Int} (h : x < y) : cmpI x y = -1 := by simp [cmpI, h]
theorem cmpI_gt {x y : Int} (h : y < x) : cmpI x y = 1 := by unfold cmpI; rw [if_neg (by omega), if_pos h]
theorem cmpI_eq (x : Int) : cmpI x x = 0 := by simp [cmpI]
def Drn (w w' : World) : Prop := ∃ q, w' = w.drewN q
theorem Drn.refl (w : World) : Drn w w := ⟨0, rfl⟩
theorem Drn.cell {w w' : World} (h : Drn w w') (p : Addr) : w'.cell? p = w.cell? p := by obtain ⟨q, rfl⟩ := h; rfl
theorem Drn.more {w w' : World} (h : Drn w w') (n : Nat) : Drn w (w'.drewN n) := by obtain ⟨q, rfl⟩ := h; exact ⟨q + n, by rw [World.drewN_drewN]⟩
theorem Drn.more1 {w w' : World} (h : Drn w w') : Drn w w'.drew := h.more 1
theorem Drn.below {w w' : World} (h : Drn w w') (B : Nat) : Below B w w' := by obtain ⟨q, rfl⟩ := h; exact ⟨rfl, rfl, rfl, Nat.le_refl _, fun _ _ => rfl⟩
theorem Drn.size {w w' : World} (h : Drn w w') : w'.heap.size = w.heap.size := by obtain ⟨q, rfl⟩ := h; rfl
theorem Drn.dg {w w' : World} (h : Drn w w') {A : Option Addr} {n : Nat} {f : Nat → Nat} (hd : Dg w A n f) : Dg w' A n f := by obtain ⟨q, rfl⟩ := h; exact hd
theorem Drn.row {w w' : World} (h : Drn w w') {g n : Nat} {f : Nat → Nat} (hd : Row w g n f) : Row w' g n f := by obtain ⟨q, rfl⟩ := h; exact hd
theorem Drn.tt {w w' : World} (h : Drn w w') {A : Option Addr} {n : Nat} (hd : TT w A n) : TT w' A n := by obtain ⟨q, rfl⟩ := h; exact hd
theorem Drn.d {w w' : World} (h : Drn w w') {v : Value} {x : Nat} (hd : D w v x) : D w' v x := by obtain ⟨q, rfl⟩ := h; exact hd
theorem comp_same (A B : Option Addr) (n ca cb : Nat) (f g : Nat → Nat) (w : World) (hn : n ≤ 1000000) (hA : Dg w A n f) (hB : Dg w B n g)
    (hf : ∀ i, i < n → f i < W) (hg : ∀ i, i < n → g i < W) :
    Calls Tryz.prog 217 #[.slice A n ca, .slice B n cb] w fun e w' => e = .returned (.int .i64 (cmpI (V f n) (V g n))) ∧ Drn w w' := by
  have HF := Lib.hid hf
  have HG := Lib.hid hg
  clear hf hg
  go_enter Tryz.func217, Tryz.ntmps217
  go_wp2_with ((with_reducible refine (cmp_int_at _ _ 0 _ (cmpI_eq _)).mono ?_); rintro e w' ⟨rfl, rfl⟩)
  go_loopw [6] (fun i wr => ∃ k : Nat, k ≤ n ∧ i = .int .i64 ((k : Int) - 1) ∧ Hid (∀ j, k ≤ j → j < n → f j = g j) ∧ Drn w wr) (fun i _ => (intOf i + 1).toNat)
  case atStart => exact ⟨n, Nat.le_refl _, rfl, fun j h1 h2 => by omega, Drn.refl w⟩
  case round =>
    obtain ⟨k, hk, rfl, hs, hq⟩ := hrel
    rcases Nat.eq_zero_or_pos k with h0 | h0
    · subst h0
      have HE : Hid (cmpI (V f n) (V g n) = 0) := by
        have : V f n = V g n := V_congr fun i hi => hs.out i (Nat.zero_le _) hi
        rw [this]; exact cmpI_eq _
      go_wp2_with fail
      go_ret
      exact ⟨by rw [HE.out]; rfl, hq⟩
    · obtain ⟨b, off, rfl, hb, hcells⟩ := hA (by omega)
      obtain ⟨b', off', rfl, hb', hcells'⟩ := hB (by omega)
      obtain ⟨j, rfl⟩ : ∃ j, k = j + 1 := ⟨k - 1, by omega⟩
      have hc1 := (hq.cell ⟨b, off + j, none⟩).trans (hcells j (by omega))
      have hc2 := (hq.cell ⟨b', off' + j, none⟩).trans (hcells' j (by omega))
      have hjn : (j : Int) < (n : Int) := by omega
      clear hcells hcells'
      have ej : (((j + 1 : Nat) : Int) - 1) = (j : Int) := by omega
      rw [ej]
      clear ej h0
      rcases Nat.lt_trichotomy (f j) (g j) with h | h | h
      · have HC := Lib.hid (cmpI_lt (show ((f j : Nat) : Int) < ((g j : Nat) : Int) by omega))
        have HE : Hid (cmpI (V f n) (V g n) = -1) := cmpI_lt (by have := V_lt_of_digit (f := f) (g := g) (n := n) (i := j) (by omega) HF.out (fun i h1 h2 => hs.out i (by omega) h2) h; omega)
        clear h
        go_wp2_with fail
        go_quiet ((go_at_call 246; exact Calls.quiet_of_same ((cmp_u32_at _ _ (-1) _ HC.out).mono fun _ _ hh => ⟨hh.1, hh.2.symm⟩)))
        go_wp2_with fail
        go_ret
        exact ⟨by rw [HE.out]; rfl, hq.more _⟩
      · have HC : Hid (cmpI ((f j : Nat) : Int) ((g j : Nat) : Int) = 0) := by rw [h]; exact cmpI_eq _
        have hs2 : Hid (∀ i, j ≤ i → i < n → f i = g i) := fun i h1 h2 => by
          by_cases e : i = j
          · rw [e]; exact h
          · exact hs.out i (by omega) h2
        clear h
        go_wp2_with fail
        go_quiet ((go_at_call 246; exact Calls.quiet_of_same ((cmp_u32_at _ _ 0 _ HC.out).mono fun _ _ hh => ⟨hh.1, hh.2.symm⟩)))
        go_wp2_with fail
        exact ⟨⟨j, by omega, rfl, hs2, hq.more _⟩, by simp [intOf]⟩
      · have HC := Lib.hid (cmpI_gt (show ((g j : Nat) : Int) < ((f j : Nat) : Int) by omega))
        have HE : Hid (cmpI (V f n) (V g n) = 1) := cmpI_gt (by have := V_lt_of_digit (f := g) (g := f) (n := n) (i := j) (by omega) HG.out (fun i h1 h2 => (hs.out i (by omega) h2).symm) h; omega)
        clear h
        go_wp2_with fail
        go_quiet ((go_at_call 246; exact Calls.quiet_of_same ((cmp_u32_at _ _ 1 _ HC.out).mono fun _ _ hh => ⟨hh.1, hh.2.symm⟩)))
        go_wp2_with fail
        go_ret
        exact ⟨by rw [HE.out]; rfl, hq.more _⟩
theorem comp_any (A B : Option Addr) (n m ca cb : Nat) (f g : Nat → Nat) (w : World) (hn : n ≤ 1000000) (hA : Dg w A n f) (hB : Dg w B m g)
    (hf : ∀ i, i < n → f i < W) (hg : ∀ i, i < m → g i < W) (hfn : Nrm f n) (hgn : Nrm g m) :
    Calls Tryz.prog 217 #[.slice A n ca, .slice B m cb] w fun e w' => e = .returned (.int .i64 (cmpI (V f n) (V g m))) ∧ Drn w w' := by
  rcases Nat.lt_trichotomy n m with h | h | h
  · have HC := Lib.hid (cmpI_lt (show (n : Int) < (m : Int) by omega))
    have HE : Hid (cmpI (V f n) (V g m) = -1) := cmpI_lt (by have := V_lt_of_len hf hgn h; omega)
    rw [HE.out]
    clear HE hf hg hfn hgn hA hB h
    go_enter Tryz.func217, Tryz.ntmps217
    go_wp2_with ((with_reducible refine (cmp_int_at _ _ (-1) _ HC.out).mono ?_); rintro e w' ⟨rfl, rfl⟩)
    go_ret
    exact ⟨rfl, Drn.refl w⟩
  · subst h
    exact comp_same A B n ca cb f g w hn hA hB hf hg
  · have HC := Lib.hid (cmpI_gt (show (m : Int) < (n : Int) by omega))
    have HE : Hid (cmpI (V f n) (V g m) = 1) := cmpI_gt (by have := V_lt_of_len hg hfn h; omega)
    rw [HE.out]
    clear HE hf hg hfn hgn hA hB h
    go_enter Tryz.func217, Tryz.ntmps217
    go_wp2_with ((with_reducible refine (cmp_int_at _ _ 1 _ HC.out).mono ?_); rintro e w' ⟨rfl, rfl⟩)
    go_ret
    exact ⟨rfl, Drn.refl w⟩
theorem two_row (w : World) (a b : Nat) {p q : Int} (hp : p = (a : Int)) (hq : q = (b : Int)) : Row (w.alloc (.cells #[.int .u32 p, .int .u32 q] 193)) w.heap.size 2 (fun j => if j = 0 then a else b) := by
  subst hp hq
  refine World.rowIs_alloc w #[.int .u32 (a : Int), .int .u32 (b : Int)] 193 _ ?_
  intro i hi
  match i, hi with
  | 0, _ => rfl
  | 1, _ => rfl
theorem word_any (x : Nat) (w : World) (hx : x < 18446744073709551616) : Calls Tryz.prog 218 #[.int .u64 (x : Int)] w (RetD x w) := by
  have e1 : (x : Int) % 4294967296 = ((x % 4294967296 : Nat) : Int) := by omega
  have e2 : (x : Int) / 4294967296 = ((x / 4294967296 : Nat) : Int) := by omega
  have HR := Lib.hid (two_row w (x % 4294967296) (x / 4294967296) e1 e2)
  have HX := Lib.hid hx
  clear e1 e2
  go_enter Tryz.func218, Tryz.ntmps218
  go_wp2_with fail
  refine (trim_any _ _ _ _ _ (Nat.le_refl _) (by omega) (HR.out.dg (Nat.le_refl _))).mono ?_
  rintro e w' ⟨q, rfl, hq, hN, hQ, rfl⟩
  go_wp2_with fail
  go_ret
  refine ⟨_, rfl, ⟨_, q, _, _, rfl, by omega, fun i hi => ?_, hN, hQ.trans ?_, ?_, HR.out.tt _⟩, (Below.refl _ _).alloc (Nat.le_refl _) _⟩
  · show (if i = 0 then _ else _) < W
    have := HX.out
    rw [W_eq]
    split <;> omega
  · simp [V_succ, V_zero, W_eq]; omega
  · intro h0
    obtain ⟨b, off, e1, e2, e3⟩ := HR.out.dg (Nat.le_refl _) (by omega)
    exact ⟨b, off, e1, e2, fun i hi => e3 i (by omega)⟩
theorem wordm_any (A : Option Addr) (n ca : Nat) (f : Nat → Nat) (w : World) (hn : n ≤ 2) (hA : Dg w A n f) (hf : ∀ i, i < n → f i < W) :
    Calls Tryz.prog 219 #[.slice A n ca] w fun e w' => e = .returned (.int .u64 ((V f n : Nat) : Int)) ∧ w = w' := by
  have HF := Lib.hid hf
  clear hf
  go_enter Tryz.func219, Tryz.ntmps219
  go_wp2_with fail
  go_loop [3, 8] (fun v i => ∃ k : Nat, k ≤ n ∧ i = .int .i64 (k : Int) ∧ v = .int .u64 ((V f k : Nat) : Int)) (fun _ i => n - (intOf i).toNat)
  case atStart => exact ⟨0, Nat.zero_le _, rfl, rfl⟩
  case round =>
    obtain ⟨k, hk, rfl, rfl⟩ := hrel
    by_cases hlt : k < n
    · obtain ⟨b, off, rfl, hb, hcells⟩ := hA (by omega)
      have hc1 := hcells k hlt
      have hfk : f k < 4294967296 := HF.out k hlt
      clear hcells
      have h01 : k = 0 ∨ k = 1 := by omega
      rcases h01 with rfl | rfl
      · have e0 : V f 0 = 0 := rfl
        rw [e0]
        clear e0
        rw [Nat.add_zero] at hc1
        have hor : Hid (bits BinOp.or IntKind.u64 0 ((f 0 : Nat) : Int) = ((V f 1 : Nat) : Int)) := by
          show bits BinOp.or IntKind.u64 ((0 : Nat) : Int) ((f 0 : Nat) : Int) = _
          rw [u64_or_nat 0 (f 0) (by omega) (by omega)]
          simp [V_succ, V_zero]
        go_wp2_with fail
        exact ⟨⟨1, by omega, rfl, by rw [hor.out]⟩, by simp [intOf]; omega⟩
      · have hf0 : V f 1 < 4294967296 := by have := V_lt (f := f) (n := 1) fun i hi => HF.out i (by omega); simpa [W_eq] using this
        have hor : Hid (bits BinOp.or IntKind.u64 ((V f 1 : Nat) : Int) (((f 1 : Nat) : Int) * 4294967296) = ((V f 2 : Nat) : Int)) := by
          have e : ((f 1 : Nat) : Int) * 4294967296 = ((f 1 * 4294967296 : Nat) : Int) := by omega
          rw [e, u64_or_nat _ _ (by omega) (by omega), Nat.or_comm, nat_join 32 _ _ (by omega) (by omega), V_succ f 1, W_eq, Nat.pow_one]
          show ((f 1 * 4294967296 + V f 1 : Nat) : Int) = _
          omega
        go_wp2_with fail
        exact ⟨⟨2, by omega, rfl, by rw [hor.out]⟩, by simp [intOf]; omega⟩
    · have hkn : k = n := by omega
      subst hkn
      go_wp2_with fail
      go_ret
      exact ⟨rfl, rfl⟩
theorem div32_any (x y b : Int) (w : World) (h : 0 ≤ x) (h2 : x < 4294967296) (h3 : 0 ≤ y) (h4 : y < 4294967296) (h5 : 0 < b) (h6 : b < 4294967296) (hx : x < b) :
    Calls Tryz.prog 285 #[.int .u32 x, .int .u32 y, .int .u32 b] w fun e w' => e = .returned (.tuple #[.int .u32 ((x * 4294967296 + y) / b), .int .u32 ((x * 4294967296 + y) % b)]) ∧ Drn w w' := by
  have hb0 : (b != 0) = true := by rw [bne_iff_ne]; omega
  have hbx : decide (b ≤ x) = false := by simp; omega
  have hor : bits BinOp.or IntKind.u64 (x * 4294967296) y = x * 4294967296 + y := by
    rw [u64_or _ _ (by omega) (by omega) h3 (by omega), nat_join 32 _ _ (by omega) (by omega)]
    omega
  have hd0 : 0 ≤ (x * 4294967296 + y) / b := Int.ediv_nonneg (by omega) (by omega)
  have hd1 : (x * 4294967296 + y) / b < 4294967296 := Int.ediv_lt_of_lt_mul h5 (by
    have : (x + 1) * 4294967296 ≤ b * 4294967296 := Int.mul_le_mul_of_nonneg_right (by omega) (by omega)
    rw [Int.mul_comm 4294967296 b]
    omega)
  have hm0 : 0 ≤ (x * 4294967296 + y) % b := Int.emod_nonneg _ (by omega)
  have hm1 : (x * 4294967296 + y) % b < b := Int.emod_lt_of_pos _ h5
  go_enter Tryz.func285, Tryz.ntmps285
  go_wp2_with fail
  go_quiet (fail)
  go_wp2_with fail
  go_ret2
  exact ⟨rfl, (Drn.refl w).more _⟩
end Go.Proofs.YtmfnpipmbpnfbaaGreatDoor
