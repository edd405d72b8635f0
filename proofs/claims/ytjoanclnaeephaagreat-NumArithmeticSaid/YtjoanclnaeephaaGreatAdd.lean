import Derived.Test.YtjoanclnaeephaaGreatBase
namespace Go.Proofs.YtjoanclnaeephaaGreat
open Go.RowKit

def slen (v : Value) : Nat := match v with | .slice _ k _ => k | _ => 0

theorem trim_any (A : Option Addr) (n c : Nat) (f : Nat → Nat) (w : World) (hn : n ≤ c) (hc : c ≤ 4000000) (hA : Dg w A n f) :
    Calls Tryz.prog 85 #[.slice A n c] w fun e w' => ∃ k, e = .returned (.slice A k c) ∧ k ≤ n ∧ Nrm f k ∧ V f k = V f n ∧ w = w' := by
  go_enter Tryz.func85, Tryz.ntmps85
  go_wp2
  go_loop [0] (fun s => ∃ k : Nat, k ≤ n ∧ s = .slice A k c ∧ Hid (V f k = V f n)) (fun s => slen s)
  case atStart => exact ⟨n, Nat.le_refl _, rfl, rfl⟩
  case round =>
    obtain ⟨k, hk, rfl, hv⟩ := hrel
    rcases Nat.eq_zero_or_pos k with h0 | h0
    · subst h0
      go_wp2
      go_ret
      exact ⟨0, rfl, hk, Or.inl rfl, hv.out, rfl⟩
    · obtain ⟨b, off, hA', hb, hcell⟩ := hA (by omega)
      subst hA'
      have hcell1 := hcell (k - 1) (by omega)
      clear hcell
      by_cases hz : f (k - 1) = 0
      · have hv2 : Hid (V f (k - 1) = V f n) := by
          have := hv.out
          obtain ⟨m, rfl⟩ : ∃ m, k = m + 1 := ⟨k - 1, by omega⟩
          rw [V_succ] at this
          simp only [Nat.add_sub_cancel] at hz ⊢
          show V f m = V f n
          rw [hz] at this; simpa using this
        rw [hz] at hcell1
        clear hz
        go_wp2
        exact ⟨⟨k - 1, by omega, rfl, hv2⟩, by simp [slen]; omega⟩
      · have hz2 : ((f (k - 1) : Int) == 0) = false := by simpa using hz
        have HZ := Lib.hid hz
        clear hz
        go_wp2
        go_ret
        exact ⟨k, rfl, hk, Or.inr HZ.out, hv.out, rfl⟩

/-- What has been added after k digits. -/
def AddRel (w : World) (N n m : Nat) (f g : Nat → Nat) (carry i : Value) (wr : World) : Prop :=
  ∃ (k c : Nat) (h : Nat → Nat), k ≤ N ∧ i = .int .i64 (k : Int) ∧ carry = .int .u64 (c : Int) ∧ c ≤ 1 ∧ (∀ j, j < k → h j < W) ∧ V h k + c * W ^ k = V (ext f n) k + V (ext g m) k ∧
    Row wr w.heap.size N h ∧ Below w.heap.size w wr

theorem addrel_start (w : World) (N n m : Nat) (f g : Nat → Nat) : AddRel w N n m f g (.int .u64 0) (.int .i64 0) (w.alloc (.cells (madeCells #[.int .u32 0] N) 80)) :=
  ⟨0, 0, fun _ => 0, Nat.zero_le _, rfl, rfl, by omega, fun j hj => by omega, by simp [V_zero], Row.new w N, (Below.refl _ _).alloc (Nat.le_refl _) _⟩

theorem addrel_step {w wr : World} {N n m k c : Nat} {f g h : Nat → Nat} (hk : k < N) (hc : c ≤ 1) (hf : ∀ i, i < n → f i < W) (hg : ∀ i, i < m → g i < W) (hh : ∀ j, j < k → h j < W)
    (hv : V h k + c * W ^ k = V (ext f n) k + V (ext g m) k) (hrow : Row wr w.heap.size N h) (hbel : Below w.heap.size w wr) {a s : Int} {i : Value}
    (hs : s = ((ext f n k : Nat) : Int) + ((ext g m k : Nat) : Int) + (c : Int)) (ha : a = (k : Int) + 1) (hi : i = .int .i64 a) :
    AddRel w N n m f g (.int .u64 (s / 4294967296)) i (wr.setCell ⟨w.heap.size, k, none⟩ (.int .u32 (s % 4294967296))) := by
  subst hs ha hi
  have b1 := ext_lt hf k
  have b2 := ext_lt hg k
  obtain ⟨t, ht⟩ : ∃ t, t = ext f n k + ext g m k + c := ⟨_, rfl⟩
  have e1 : ((ext f n k : Nat) : Int) + ((ext g m k : Nat) : Int) + (c : Int) = (t : Int) := by omega
  rw [e1]
  have e2 : (t : Int) % 4294967296 = ((t % W : Nat) : Int) := by rw [W_eq]; omega
  have e3 : (t : Int) / 4294967296 = ((t / W : Nat) : Int) := by rw [W_eq]; omega
  rw [e2, e3]
  refine ⟨k + 1, t / W, up h k (t % W), by omega, by rw [show ((k + 1 : Nat) : Int) = (k : Int) + 1 from by omega], rfl, by rw [W_eq]; omega, ?_, ?_, hrow.set k _, hbel.setCell (Nat.le_refl _) _⟩
  · intro j hj
    by_cases e : j = k
    · rw [e, up_at]; exact Nat.mod_lt _ W_pos
    · rw [up_far h _ e]; exact hh j (by omega)
  · rw [V_succ, V_succ, V_succ, up_at, V_up_below h _ (Nat.le_refl k)]
    exact add_step _ _ hv ht

theorem addrel_end {n m N k c : Nat} {f g h : Nat → Nat} (hk : k = N) (hn : n < N) (hm : m < N) (hf : ∀ i, i < n → f i < W) (hg : ∀ i, i < m → g i < W)
    (hv : V h k + c * W ^ k = V (ext f n) k + V (ext g m) k) : V h N = V f n + V g m := by
  subst hk
  rw [V_ext (by omega), V_ext (by omega)] at hv
  have b1 := V_lt hf
  have b2 := V_lt hg
  obtain ⟨M, rfl⟩ : ∃ M, k = M + 1 := ⟨k - 1, by omega⟩
  have c1 := pow_le (show n ≤ M by omega)
  have c2 := pow_le (show m ≤ M by omega)
  have c3 : W ^ (M + 1) = 4294967296 * W ^ M := by rw [pow_succ', Nat.mul_comm]; rfl
  rcases Nat.eq_zero_or_pos c with h0 | h0
  · subst h0; omega
  · have := Nat.mul_le_mul_right (W ^ (M + 1)) h0
    omega

theorem below_trans_same {a b c : World} (h : Below a.heap.size a b) (k : Below b.heap.size b c) : Below a.heap.size a c := h.trans (k.mono h.size)

set_option maxRecDepth 100000 in
theorem add_lt (A B : Option Addr) (n m ca cb : Nat) (f g : Nat → Nat) (w : World) (hnm : n < m) (hn : n ≤ 1000000) (hm : m ≤ 1000000) (hA : Dg w A n f) (hB : Dg w B m g)
    (hf : ∀ i, i < n → f i < W) (hg : ∀ i, i < m → g i < W) :
    Calls Tryz.prog 67 #[.slice A n ca, .slice B m cb] w (RetD (V f n + V g m) w) := by
  have hmk := make_row (m + 1) (by omega)
  have ec : ((m + 1 : Nat) : Int) = (m : Int) + 1 := by omega
  rw [ec] at hmk
  have HF := Lib.hid hf
  have HG := Lib.hid hg
  clear hf hg
  go_enter Tryz.func67, Tryz.ntmps67
  go_wp2_with fail
  clear hmk ec
  go_loopw [6, 18] (fun c i wr => AddRel w (m + 1) n m f g c i wr) (fun _ i _ => m + 1 - (intOf i).toNat)
  case atStart => exact addrel_start w (m + 1) n m f g
  case round =>
    obtain ⟨k, c, h, hk, rfl, rfl, hc, hh, hv, hrow, hbel⟩ := hrel
    have HH := Lib.hid hh
    have HV := Lib.hid hv
    clear hh hv
    by_cases hlt : k < m + 1
    · have hA1 : Dg wr A n f := hA.keep hbel
      have hB1 : Dg wr B m g := hB.keep hbel
      have b1 := ext_lt HF.out k
      have b2 := ext_lt HG.out k
      have hcell := hrow.cell hlt
      have hfr := hrow.frozen k
      go_wp2_with (first | ((with_reducible refine (at_any A n ca f (k : Int) _ (by omega) (by omega) (by omega) hA1).mono ?_); rintro e w' ⟨rfl, rfl⟩) | ((with_reducible refine (at_any B m cb g (k : Int) _ (by omega) (by omega) (by omega) hB1).mono ?_); rintro e w' ⟨rfl, rfl⟩))
      go_roundw
      case rel => exact addrel_step hlt hc HF.out HG.out HH.out HV.out hrow hbel rfl rfl rfl
      case measure => simp [intOf]; omega
    · have hke : k = m + 1 := by omega
      have HE := Lib.hid (addrel_end hke (show n < m + 1 by omega) (show m < m + 1 by omega) HF.out HG.out HV.out)
      have HD := Lib.hid (hrow.dg (Nat.le_refl _))
      have HH2 : Hid (∀ j, j < m + 1 → h j < W) := by have := HH.out; rw [hke] at this; exact this
      clear hke HV HH
      go_wp2_with ((with_reducible refine (trim_any _ _ _ h _ (Nat.le_refl _) (by omega) HD.out).mono ?_); rintro e w' ⟨q, rfl, hq, hN, hQ, rfl⟩)
      go_ret
      refine ⟨_, rfl, ⟨_, q, _, h, rfl, by omega, fun i hi => HH2.out i (by omega), hN, hQ.trans HE.out, ?_, hrow.tt _⟩, hbel⟩
      intro h0
      obtain ⟨b, off, e1, e2, e3⟩ := HD.out (by omega)
      exact ⟨b, off, e1, e2, fun i hi => e3 i (by omega)⟩

set_option maxRecDepth 100000 in
theorem add_ge (A B : Option Addr) (n m ca cb : Nat) (f g : Nat → Nat) (w : World) (hnm : ¬ n < m) (hn : n ≤ 1000000) (hm : m ≤ 1000000) (hA : Dg w A n f) (hB : Dg w B m g)
    (hf : ∀ i, i < n → f i < W) (hg : ∀ i, i < m → g i < W) :
    Calls Tryz.prog 67 #[.slice A n ca, .slice B m cb] w (RetD (V f n + V g m) w) := by
  have hmk := make_row (n + 1) (by omega)
  have ec : ((n + 1 : Nat) : Int) = (n : Int) + 1 := by omega
  rw [ec] at hmk
  have HF := Lib.hid hf
  have HG := Lib.hid hg
  clear hf hg
  go_enter Tryz.func67, Tryz.ntmps67
  go_wp2_with fail
  clear hmk ec
  go_loopw [6, 18] (fun c i wr => AddRel w (n + 1) n m f g c i wr) (fun _ i _ => n + 1 - (intOf i).toNat)
  case atStart => exact addrel_start w (n + 1) n m f g
  case round =>
    obtain ⟨k, c, h, hk, rfl, rfl, hc, hh, hv, hrow, hbel⟩ := hrel
    have HH := Lib.hid hh
    have HV := Lib.hid hv
    clear hh hv
    by_cases hlt : k < n + 1
    · have hA1 : Dg wr A n f := hA.keep hbel
      have hB1 : Dg wr B m g := hB.keep hbel
      have b1 := ext_lt HF.out k
      have b2 := ext_lt HG.out k
      have hcell := hrow.cell hlt
      have hfr := hrow.frozen k
      go_wp2_with (first | ((with_reducible refine (at_any A n ca f (k : Int) _ (by omega) (by omega) (by omega) hA1).mono ?_); rintro e w' ⟨rfl, rfl⟩) | ((with_reducible refine (at_any B m cb g (k : Int) _ (by omega) (by omega) (by omega) hB1).mono ?_); rintro e w' ⟨rfl, rfl⟩))
      go_roundw
      case rel => exact addrel_step hlt hc HF.out HG.out HH.out HV.out hrow hbel rfl rfl rfl
      case measure => simp [intOf]; omega
    · have hke : k = n + 1 := by omega
      have HE := Lib.hid (addrel_end hke (show n < n + 1 by omega) (show m < n + 1 by omega) HF.out HG.out HV.out)
      have HD := Lib.hid (hrow.dg (Nat.le_refl _))
      have HH2 : Hid (∀ j, j < n + 1 → h j < W) := by have := HH.out; rw [hke] at this; exact this
      clear hke HV HH
      go_wp2_with ((with_reducible refine (trim_any _ _ _ h _ (Nat.le_refl _) (by omega) HD.out).mono ?_); rintro e w' ⟨q, rfl, hq, hN, hQ, rfl⟩)
      go_ret
      refine ⟨_, rfl, ⟨_, q, _, h, rfl, by omega, fun i hi => HH2.out i (by omega), hN, hQ.trans HE.out, ?_, hrow.tt _⟩, hbel⟩
      intro h0
      obtain ⟨b, off, e1, e2, e3⟩ := HD.out (by omega)
      exact ⟨b, off, e1, e2, fun i hi => e3 i (by omega)⟩

theorem add_any (A B : Option Addr) (n m ca cb : Nat) (f g : Nat → Nat) (w : World) (hn : n ≤ 1000000) (hm : m ≤ 1000000) (hA : Dg w A n f) (hB : Dg w B m g)
    (hf : ∀ i, i < n → f i < W) (hg : ∀ i, i < m → g i < W) :
    Calls Tryz.prog 67 #[.slice A n ca, .slice B m cb] w (RetD (V f n + V g m) w) := by
  by_cases hnm : n < m
  · exact add_lt A B n m ca cb f g w hnm hn hm hA hB hf hg
  · exact add_ge A B n m ca cb f g w hnm hn hm hA hB hf hg

end Go.Proofs.YtjoanclnaeephaaGreat
