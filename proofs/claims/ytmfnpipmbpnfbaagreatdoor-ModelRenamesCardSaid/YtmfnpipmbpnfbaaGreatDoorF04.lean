/- The two functions of package bits that find the length of a word, by contract. -/
import Derived.Shelf.Small.Bits
import Derived.Test.YtmfnpipmbpnfbaaGreatDoorProg
import Derived.Test.YtmfnpipmbpnfbaaGreatDoorF03

set_option maxRecDepth 100000
set_option maxHeartbeats 40000000
namespace Go.Proofs
open Go.Shelf
def Tryz.lays128_ren : Go.Shelf.Ren := ⟨fun | 128 => 169 | n => n, fun | 51 => 193 | 3 => 3 | 4 => 4 | 46 => 136 | 5 => 5 | 9 => 9 | n => n, fun | n => n⟩
theorem Tryz.lays128 : Go.Proofs.Lays.n128 Tryz.prog Tryz.lays128_ren := {
  mixed := by kernel_rfl
  f128 := Tryz.func169.trans (congrArg some (by kernel_rfl))
  t3 := Tryz.underlying3
  a3 := Tryz.isAgg3
  z3 := Tryz.sizeOf3
  v3 := Tryz.zeroValue3
  t4 := Tryz.underlying4
  a4 := Tryz.isAgg4
  z4 := Tryz.sizeOf4
  v4 := Tryz.zeroValue4
  t5 := Tryz.underlying5
  a5 := Tryz.isAgg5
  z5 := Tryz.sizeOf5
  v5 := Tryz.zeroValue5
  t9 := Tryz.underlying9
  a9 := Tryz.isAgg9
  z9 := Tryz.sizeOf9
  v9 := Tryz.zeroValue9
  t46 := Tryz.underlying136
  a46 := Tryz.isAgg136
  z46 := Tryz.sizeOf136
  v46 := Tryz.zeroValue136
  t51 := Tryz.underlying193
  a51 := Tryz.isAgg193
  z51 := Tryz.sizeOf193
  v51 := Tryz.zeroValue193 }
theorem Tryz.bits_Len32 (x : Int) (w : World) (h0 : 0 ≤ x) (h1 : x ≤ 4294967295) :
    Calls Tryz.prog 169 #[.int .u32 x] w fun e w' => e = .returned (.int .i64 (Lib.bitLen x.toNat)) ∧ w' = w := Any.bits_Len32 Tryz.lays128 x w h0 h1
def Tryz.lays133_ren : Go.Shelf.Ren := ⟨fun | 133 => 286 | 128 => 169 | n => n, fun | 51 => 193 | 3 => 3 | 4 => 4 | 46 => 136 | 5 => 5 | 9 => 9 | n => n, fun | n => n⟩
theorem Tryz.lays133 : Go.Proofs.Lays.n133 Tryz.prog Tryz.lays133_ren := {
  mixed := by kernel_rfl
  f128 := Tryz.func169.trans (congrArg some (by kernel_rfl))
  f133 := Tryz.func286.trans (congrArg some (by kernel_rfl))
  t3 := Tryz.underlying3
  a3 := Tryz.isAgg3
  z3 := Tryz.sizeOf3
  v3 := Tryz.zeroValue3
  t4 := Tryz.underlying4
  a4 := Tryz.isAgg4
  z4 := Tryz.sizeOf4
  v4 := Tryz.zeroValue4
  t5 := Tryz.underlying5
  a5 := Tryz.isAgg5
  z5 := Tryz.sizeOf5
  v5 := Tryz.zeroValue5
  t9 := Tryz.underlying9
  a9 := Tryz.isAgg9
  z9 := Tryz.sizeOf9
  v9 := Tryz.zeroValue9
  t46 := Tryz.underlying136
  a46 := Tryz.isAgg136
  z46 := Tryz.sizeOf136
  v46 := Tryz.zeroValue136
  t51 := Tryz.underlying193
  a51 := Tryz.isAgg193
  z51 := Tryz.sizeOf193
  v51 := Tryz.zeroValue193 }
theorem Tryz.bits_LeadingZeros32 (x : Int) (w : World) (h0 : 0 ≤ x) (h1 : x ≤ 4294967295) :
    Calls Tryz.prog 286 #[.int .u32 x] w fun e w' => e = .returned (.int .i64 (32 - (Lib.bitLen x.toNat : Int))) ∧ w' = w := Any.bits_LeadingZeros32 Tryz.lays133 x w h0 h1
end Go.Proofs
namespace Go.Proofs.YtmfnpipmbpnfbaaGreatDoor
open Go.RowKit
theorem bitLen_bounds : ∀ (f x : Nat), 0 < x → x < 2 ^ f → 1 ≤ Lib.bitLenAux f x ∧ Lib.bitLenAux f x ≤ f ∧ 2 ^ (Lib.bitLenAux f x - 1) ≤ x ∧ x < 2 ^ Lib.bitLenAux f x
  | 0, x, h0, h1 => by simp at h1; omega
  | f + 1, x, h0, h1 => by
    have hx : x ≠ 0 := by omega
    simp only [Lib.bitLenAux, if_neg hx]
    rcases Nat.eq_zero_or_pos (x / 2) with g | g
    · have e : Lib.bitLenAux f (x / 2) = 0 := by
        rw [g]
        cases f <;> simp [Lib.bitLenAux]
      rw [e]
      refine ⟨by omega, by omega, by simp; omega, ?_⟩
      show x < 2
      omega
    · obtain ⟨a1, a2, a3, a4⟩ := bitLen_bounds f (x / 2) g (by rw [Nat.pow_succ] at h1; omega)
      generalize Lib.bitLenAux f (x / 2) = L at a1 a2 a3 a4
      obtain ⟨l, rfl⟩ : ∃ l, L = l + 1 := ⟨L - 1, by omega⟩
      simp only [Nat.add_sub_cancel] at a3
      refine ⟨by omega, by omega, ?_, ?_⟩
      · rw [show 1 + (l + 1) - 1 = l + 1 from by omega, Nat.pow_succ]; omega
      · rw [show 1 + (l + 1) = (l + 1) + 1 from by omega, Nat.pow_succ]; omega
theorem lz_any (y : Nat) (h0 : 0 < y) (h1 : y < 4294967296) : ∃ s : Nat, s < 32 ∧ 2147483648 ≤ y * 2 ^ s ∧ y * 2 ^ s < 4294967296 ∧
    ∀ w : World, Calls Tryz.prog 286 #[.int .u32 (y : Int)] w fun e w' => e = .returned (.int .i64 (s : Int)) ∧ w = w' := by
  have hL : Lib.bitLen y = Lib.bitLenAux 32 y := Lib.bitLenAux_fuel 32 y h1 64 (by omega)
  obtain ⟨a1, a2, a3, a4⟩ := bitLen_bounds 32 y h0 h1
  generalize hl : Lib.bitLenAux 32 y = L at a1 a2 a3 a4
  refine ⟨32 - L, by omega, ?_, ?_, fun w => ?_⟩
  · have h := Nat.mul_le_mul_right (2 ^ (32 - L)) a3
    rw [← Nat.pow_add, show L - 1 + (32 - L) = 31 from by omega] at h
    exact h
  · have h := Nat.mul_lt_mul_of_pos_right a4 (two_pow_pos (32 - L))
    rw [← Nat.pow_add, show L + (32 - L) = 32 from by omega] at h
    exact h
  · refine (Tryz.bits_LeadingZeros32 (y : Int) w (by omega) (by omega)).mono ?_
    rintro e w' ⟨rfl, rfl⟩
    refine ⟨?_, rfl⟩
    rw [Int.toNat_natCast, hL, hl, show (((32 - L : Nat)) : Int) = 32 - (L : Int) from by omega]
theorem norm_div {g hb : Nat → Nat} {m s : Nat} (hm : 0 < m) (hg : ∀ i, i < m → g i < W) (hW : ∀ j, j < m + 1 → hb j < W) (hs1 : 2147483648 ≤ g (m - 1) * 2 ^ s) (hs2 : g (m - 1) * 2 ^ s < 4294967296) (hs : s < 32)
    (hv : V hb (m + 1) = V g m * 2 ^ s) : V hb m = V g m * 2 ^ s ∧ 2147483648 ≤ hb (m - 1) := by
  obtain ⟨k, rfl⟩ : ∃ k, m = k + 1 := ⟨m - 1, by omega⟩
  simp only [Nat.add_sub_cancel] at hs1 hs2 ⊢
  have h1 : V g k < W ^ k := V_lt fun i hi => hg i (by omega)
  have hlt : V g (k + 1) * 2 ^ s < W ^ (k + 1) := by
    rw [V_succ, Nat.add_mul]
    have hW2 : W = 2 ^ s * 2 ^ (32 - s) := W_two s (by omega)
    -- the top digit times 2^s is a multiple of 2^s below W
    have ht : g k * 2 ^ s + 2 ^ s ≤ W := by
      have hq : g k < 2 ^ (32 - s) := by
        rcases Nat.lt_or_ge (g k) (2 ^ (32 - s)) with c | c
        · exact c
        · have := Nat.mul_le_mul_left (2 ^ s) c
          rw [← hW2, Nat.mul_comm] at this
          rw [W_eq] at this
          omega
      have := Nat.mul_le_mul_left (2 ^ s) (show g k + 1 ≤ 2 ^ (32 - s) from hq)
      rw [← hW2, Nat.mul_add, Nat.mul_one, Nat.mul_comm] at this
      exact this
    have h2 : V g k * 2 ^ s < W ^ k * 2 ^ s := Nat.mul_lt_mul_of_pos_right h1 (two_pow_pos s)
    have h3 : (g k * 2 ^ s + 2 ^ s) * W ^ k ≤ W * W ^ k := Nat.mul_le_mul_right _ ht
    rw [Nat.add_mul] at h3
    have e1 : g k * W ^ k * 2 ^ s = g k * 2 ^ s * W ^ k := by rw [Nat.mul_assoc, Nat.mul_comm (W ^ k), ← Nat.mul_assoc]
    rw [pow_succ', Nat.mul_comm (W ^ k) W, e1]
    rw [Nat.mul_comm (W ^ k) (2 ^ s)] at h2
    omega
  have htop : hb (k + 1) = 0 := by
    rcases Nat.eq_zero_or_pos (hb (k + 1)) with h | h
    · exact h
    · rw [V_succ] at hv
      have := Nat.mul_le_mul_right (W ^ (k + 1)) h
      omega
  have hv2 : V hb (k + 1) = V g (k + 1) * 2 ^ s := by rw [V_succ hb (k + 1), htop] at hv; omega
  refine ⟨hv2, ?_⟩
  rcases Nat.lt_or_ge (hb k) 2147483648 with c | c
  · exfalso
    have h4 : V hb k < W ^ k := V_lt fun i hi => hW i (by omega)
    rw [V_succ, V_succ, Nat.add_mul] at hv2
    have e1 : g k * W ^ k * 2 ^ s = g k * 2 ^ s * W ^ k := by rw [Nat.mul_assoc, Nat.mul_comm (W ^ k), ← Nat.mul_assoc]
    rw [e1] at hv2
    have h5 : (hb k + 1) * W ^ k ≤ g k * 2 ^ s * W ^ k := Nat.mul_le_mul_right _ (by omega)
    rw [Nat.add_mul, Nat.one_mul] at h5
    omega
  · exact c
theorem lead_lt {f g ha : Nat → Nat} {n m s : Nat} (hmn : m ≤ n) (hm : 0 < m) (hf : ∀ i, i < n → f i < W) (hW : ∀ j, j < n + 1 → ha j < W) (hs : s < 32) (hs1 : 2147483648 ≤ g (m - 1) * 2 ^ s) (hv : V ha (n + 1) = V f n * 2 ^ s) :
    V (sh ha (n - m + 1)) m < V g m * 2 ^ s := by
  have h1 := V_drop (f := ha) (n := n + 1) (i := n - m + 1) hW (by omega)
  rw [show n + 1 - (n - m + 1) = m from by omega] at h1
  have e : V (sh ha (n - m + 1)) m = V ha (n + 1) / W ^ (n - m + 1) := h1
  rw [e, Nat.div_lt_iff_lt_mul (pow_pos' _), hv]
  have h2 : V f n < W ^ n := V_lt hf
  obtain ⟨k, rfl⟩ : ∃ k, m = k + 1 := ⟨m - 1, by omega⟩
  simp only [Nat.add_sub_cancel] at hs1
  have h3 : 2 ^ s ≤ g k * 2 ^ s := Nat.le_trans (two_pow_le s hs) hs1
  have h4 : 2 ^ s * W ^ k ≤ V g (k + 1) * 2 ^ s := by
    rw [V_succ, Nat.add_mul]
    have e1 : g k * W ^ k * 2 ^ s = g k * 2 ^ s * W ^ k := by rw [Nat.mul_assoc, Nat.mul_comm (W ^ k), ← Nat.mul_assoc]
    have := Nat.mul_le_mul_right (W ^ k) h3
    omega
  have h5 : V f n * 2 ^ s < W ^ n * 2 ^ s := Nat.mul_lt_mul_of_pos_right h2 (two_pow_pos s)
  have h6 := Nat.mul_le_mul_right (W ^ (n - (k + 1) + 1)) h4
  rw [Nat.mul_assoc, ← Nat.pow_add, show k + (n - (k + 1) + 1) = n from by omega] at h6
  rw [Nat.mul_comm (W ^ n)] at h5
  omega
def LRel (w0 w : World) (g1 g2 g3 n m M D : Nat) (hb ha : Nat → Nat) (i : Value) (wr : World) : Prop :=
  ∃ (k : Nat) (hr ho : Nat → Nat), k ≤ M ∧ i = .int .i64 ((k : Int) - 1) ∧ Row wr g1 (m + 1) hb ∧ Row wr g2 (n + 1) hr ∧ (∀ j, j < n + 1 → hr j < W) ∧ (∀ j, j < k → hr j = ha j) ∧ Row wr g3 M ho ∧ (∀ j, k ≤ j → j < M → ho j < W) ∧
    V (sh hr k) m < D ∧ V (sh ha k) (n + 1 - k) = V (sh ho k) (M - k) * D + V (sh hr k) m ∧ Below w0.heap.size w0 wr ∧ w.heap.size ≤ wr.heap.size
theorem V_sh_head (f : Nat → Nat) (j l : Nat) : V (sh f j) (l + 1) = f j + W * V (sh f (j + 1)) l := by
  rw [V_head]
  have : (fun i => sh f j (i + 1)) = sh f (j + 1) := by funext i; unfold sh; rw [show j + (i + 1) = j + 1 + i from by omega]
  rw [this]
  rfl
theorem lrel_step {w0 w wr w1 w2 : World} {g1 g2 g3 n m M j q : Nat} {hb ha hr ho h : Nat → Nat} (hM : M + m = n + 1) (hj : j + 1 ≤ M) (hb1 : ∀ i, i < m → hb i < W)
    (hrow1 : Row wr g1 (m + 1) hb) (hrow3 : Row wr g3 M ho) (hWr : ∀ i, i < n + 1 → hr i < W) (hsame : ∀ i, i < j + 1 → hr i = ha i) (hWo : ∀ i, j + 1 ≤ i → i < M → ho i < W) (hR : V (sh hr (j + 1)) m < V hb m)
    (hv : V (sh ha (j + 1)) (n + 1 - (j + 1)) = V (sh ho (j + 1)) (M - (j + 1)) * V hb m + V (sh hr (j + 1)) m) (hbel : Below w0.heap.size w0 wr) (hsz : w.heap.size ≤ wr.heap.size)
    (n12 : g1 ≠ g2) (n13 : g1 ≠ g3) (n23 : g2 ≠ g3) (l2 : w0.heap.size ≤ g2) (l3 : w0.heap.size ≤ g3)
    (hq : q = V (sh hr j) (m + 1) / V hb m) (hqW : q < W) (r1 : Row w1 g2 (n + 1) h) (r2 : ∀ i, i < j ∨ j + (m + 1) ≤ i → h i = hr i) (r3 : ∀ i, i < m + 1 → sh h j i < W) (r4 : V (sh h j) (m + 1) = V (sh hr j) (m + 1) % V hb m) (r5 : wr.grownBy w1 (some g2))
    {a : Int} {i : Value} (ha1 : a = (j : Int) - 1) (hi : i = .int .i64 a) (hw : w2 = w1.setCell ⟨g3, j, none⟩ (.int .u32 (q : Int))) : LRel w0 w g1 g2 g3 n m M (V hb m) hb ha i w2 := by
  subst ha1 hi hw
  have hlt1 := hrow1.lt
  have hlt3 := hrow3.lt
  have hrow1' : Row w1 g1 (m + 1) hb := hrow1.block (r5.block g1 hlt1 (fun e => n12 (by injection e)))
  have hrow3' : Row w1 g3 M ho := hrow3.block (r5.block g3 hlt3 (fun e => n23 (by injection e with e; exact e.symm)))
  have hrow1'' : Row (w1.setCell ⟨g3, j, none⟩ (.int .u32 (q : Int))) g1 (m + 1) hb := World.rowIs.setOther hrow1' n13 _
  have r1'' : Row (w1.setCell ⟨g3, j, none⟩ (.int .u32 (q : Int))) g2 (n + 1) h := World.rowIs.setOther r1 n23 _
  have hDpos : 0 < V hb m := by omega
  have hmod := Nat.mod_lt (V (sh hr j) (m + 1)) hDpos
  have hDW : V hb m < W ^ m := V_lt hb1
  have htop : h (j + m) = 0 := by
    rcases Nat.eq_zero_or_pos (h (j + m)) with z | z
    · exact z
    · rw [V_succ] at r4
      have e : sh h j m = h (j + m) := rfl
      rw [e] at r4
      have := Nat.mul_le_mul_right (W ^ m) z
      omega
  have r4' : V (sh h j) m = V (sh hr j) (m + 1) % V hb m := by
    rw [V_succ] at r4
    have e : sh h j m = h (j + m) := rfl
    rw [e, htop] at r4
    omega
  have hU : V (sh hr j) (m + 1) = hr j + W * V (sh hr (j + 1)) m := V_sh_head hr j m
  have hdm : q * V hb m + V (sh hr j) (m + 1) % V hb m = V (sh hr j) (m + 1) := by rw [hq, Nat.mul_comm]; exact Nat.div_add_mod _ _
  refine ⟨j, h, up ho j q, by omega, rfl, hrow1'', r1'', ?_, ?_, hrow3'.set _ _, ?_, by rw [r4']; exact hmod, ?_, (hbel.grown r5 hbel.size (fun k hk => by injection hk with hk; omega)).setCell l3 _, ?_⟩
  · intro i hi
    by_cases c : i < j ∨ j + (m + 1) ≤ i
    · rw [r2 i c]; exact hWr i hi
    · have := r3 (i - j) (by omega)
      unfold sh at this
      rwa [show j + (i - j) = i from by omega] at this
  · intro i hi
    rw [r2 i (Or.inl hi)]; exact hsame i (by omega)
  · intro i h1 h2
    by_cases e : i = j
    · rw [e, up_at]; exact hqW
    · rw [up_far _ _ e]; exact hWo i (by omega) h2
  · rw [show n + 1 - j = (n + 1 - (j + 1)) + 1 from by omega, V_sh_head, show M - j = (M - (j + 1)) + 1 from by omega, V_sh_head, up_at, hv, r4']
    have e : V (sh (up ho j q) (j + 1)) (M - (j + 1)) = V (sh ho (j + 1)) (M - (j + 1)) := V_congr fun i hi => by unfold sh; exact up_far _ _ (by omega)
    rw [e, ← hsame j (by omega)]
    rw [Nat.add_mul, Nat.mul_add, Nat.mul_assoc]
    omega
  · have := r5.size
    show w.heap.size ≤ (w1.heap.modify _ _).size
    rw [Array.size_modify]
    omega
def RetDiv (x y : Nat) (w : World) (e : Ending) (w' : World) : Prop := ∃ q r, e = .returned (.tuple #[q, r]) ∧ D w' q (x / y) ∧ D w' r (x % y) ∧ Below w.heap.size w w'
theorem long_any (A : Option Addr) (n ca : Nat) (b off m cb : Nat) (f g : Nat → Nat) (w : World) (hn : n ≤ 999999) (hm : 2 ≤ m) (hmn : m ≤ n) (hA : Dg w A n f) (hb : b < w.heap.size)
    (hcs : ∀ i, i < m → w.cell? ⟨b, off + i, none⟩ = some (.int .u32 ((g i : Nat) : Int))) (hf : ∀ i, i < n → f i < W) (hg : ∀ i, i < m → g i < W) (htop : g (m - 1) ≠ 0) :
    Calls Tryz.prog 282 #[.slice A n ca, .slice (some ⟨b, off, none⟩) m cb] w (RetDiv (V f n) (V g m) w) := by
  obtain ⟨s, hs, hs1, hs2, hlz⟩ := lz_any (g (m - 1)) (by omega) (hg _ (by omega))
  have hc := hcs (m - 1) (by omega)
  have HLZ := Lib.hid hlz
  have HF := Lib.hid hf
  have HG := Lib.hid hg
  have HCS := Lib.hid hcs
  have HS1 := Lib.hid hs1
  have HS2 := Lib.hid hs2
  have hBD : Dg w (some ⟨b, off, none⟩) m g := fun _ => ⟨b, off, rfl, hb, hcs⟩
  have HT := Lib.hid htop
  clear hf hg hcs htop hlz hs1 hs2
  have hm1 : 0 ≤ (m : Int) - 1 := by omega
  have hmk := make_row (n - m + 1) (by omega)
  have ec : ((n - m + 1 : Nat) : Int) = (n : Int) - m + 1 := by omega
  rw [ec] at hmk
  have HMK := Lib.hid hmk
  clear hmk ec
  go_enter Tryz.func282, Tryz.ntmps282
  go_wp2_with ((with_reducible refine (HLZ.out _).mono ?_); rintro e w' ⟨rfl, rfl⟩)
  refine (shl_any _ m cb s g _ (by omega) hs hBD HG.out).mono ?_
  rintro e w1 ⟨hb1, rfl, hrow1, hW1, hv1, hbel1⟩
  have HW1 := Lib.hid hW1
  have HV1 := Lib.hid hv1
  clear hW1 hv1 HLZ
  go_wp2_with fail
  refine (shl_any _ n ca s f _ (by omega) hs (hA.keep hbel1) HF.out).mono ?_
  rintro e w2 ⟨ha, rfl, hrow2, hW2, hv2, hbel2⟩
  have HW2 := Lib.hid hW2
  have HV2 := Lib.hid hv2
  clear hW2 hv2
  have hmk := HMK.out
  clear HMK
  go_wp2_with fail
  clear hmk
  have l12 := hrow1.lt
  have l23 := hrow2.lt
  have HND := Lib.hid (norm_div (show 0 < m by omega) HG.out HW1.out HS1.out HS2.out hs HV1.out)
  have HLL := Lib.hid (lead_lt hmn (show 0 < m by omega) HF.out HW2.out hs HS1.out HV2.out)
  have hbel3 : Below w.heap.size w w2 := hbel1.trans (hbel2.mono hbel1.size)
  have hstart : LRel w w2 w.heap.size w1.heap.size w2.heap.size n m (n - m + 1) (V hb1 m) hb1 ha (.int .i64 ((n - m : Nat) : Int)) (w2.alloc (.cells (madeCells #[.int .u32 0] (n - m + 1)) 193)) := by
    refine ⟨n - m + 1, ha, fun _ => 0, Nat.le_refl _, by rw [show ((n - m + 1 : Nat) : Int) - 1 = ((n - m : Nat) : Int) from by omega], World.rowIs.alloc (hrow1.keep hbel2) _, World.rowIs.alloc hrow2 _, HW2.out, fun _ _ => rfl, Row.new _ _, fun j _ _ => W_pos, ?_, ?_, hbel3.alloc hbel3.size _, by simp⟩
    · rw [HND.out.1]; exact HLL.out
    · rw [show n + 1 - (n - m + 1) = m from by omega, Nat.sub_self, V_zero, Nat.zero_mul, Nat.zero_add]
  have HST := Lib.hid hstart
  clear hstart
  go_loopw [10] (fun i wr => LRel w w2 w.heap.size w1.heap.size w2.heap.size n m (n - m + 1) (V hb1 m) hb1 ha i wr) (fun i _ => (intOf i + 1).toNat)
  case atStart => exact HST.out
  case round =>
    obtain ⟨k, hr, ho, hk, rfl, ro1, ro2, hWr, hsame, ro3, hWo, hR, hv, hbel, hsz⟩ := hrel
    have HWR := Lib.hid hWr
    have HSA := Lib.hid hsame
    have HWO := Lib.hid hWo
    have HR := Lib.hid hR
    have HV := Lib.hid hv
    clear hWr hsame hWo hR hv
    rcases Nat.eq_zero_or_pos k with h0 | h0
    · subst h0
      have D3 : Hid (Dg wr (some ⟨w2.heap.size, 0, none⟩) (n - m + 1) ho) := ro3.dg (Nat.le_refl _)
      have D2 : Hid (∀ wx, Below wr.heap.size wr wx → Dg wx (some ⟨w1.heap.size, 0, none⟩) m hr) := fun wx hx => (ro2.keep hx).dg (by omega)
      have HE : Hid (V ho (n - m + 1) = V f n / V g m ∧ V hr m / 2 ^ s = V f n % V g m) := by
        have h1 := HV.out
        have h2 := HR.out
        have es : ∀ z : Nat → Nat, sh z 0 = z := fun z => by funext i; unfold sh; rw [Nat.zero_add]
        rw [es, es, es, Nat.sub_zero, Nat.sub_zero, HV2.out, HND.out.1] at h1
        rw [es, HND.out.1] at h2
        have hq : V f n * 2 ^ s / (V g m * 2 ^ s) = V ho (n - m + 1) ∧ V f n * 2 ^ s % (V g m * 2 ^ s) = V f n * 2 ^ s - V ho (n - m + 1) * (V g m * 2 ^ s) := quotient_of (by rw [Nat.add_mul, Nat.one_mul]; omega) (by omega)
        rw [Nat.mul_div_mul_right _ _ (two_pow_pos s)] at hq
        refine ⟨hq.1.symm, ?_⟩
        have h3 : V hr m = V f n * 2 ^ s % (V g m * 2 ^ s) := by rw [hq.2]; omega
        rw [h3, Nat.mul_mod_mul_right, Nat.mul_div_cancel _ (two_pow_pos s)]
      have HW3 : Hid (∀ j, j < n - m + 1 → ho j < W) := fun j hj => HWO.out j (Nat.zero_le _) hj
      clear HWO HV HR HSA
      go_wp2_with fail
      go_region_with (first | ((with_reducible refine (trim_any _ (n - m + 1) (n - m + 1) ho _ (Nat.le_refl _) (by omega) (Dg.drew D3.out)).mono ?_); (rintro e wx ⟨q, rfl, hq, hN, hQ, rfl⟩); (have HN := Lib.hid hN); (have HQ := Lib.hid hQ); clear hN hQ) | ((with_reducible refine (shr_any _ m (n + 1) s hr _ (by omega) hs (D2.out _ (Drn.below (Drn.more1 (Drn.refl wr)) _)) (fun i hi => HWR.out i (by omega))).mono ?_); (rintro e wx ⟨vr, rfl, hvr, hbx⟩)))
      all_goals go_wp2_with fail
      all_goals go_ret2
      all_goals
        have hbw : Below wr.heap.size wr wx := ⟨hbx.os, hbx.tape, hbx.output, hbx.size, hbx.block⟩
        exact ⟨_, _, rfl, ⟨_, q, _, ho, rfl, hq, fun i hi => HW3.out i (by omega), HN.out, HQ.out.trans HE.out.1, (D3.out.keep hbw).sub hq, (ro3.tt _).keep hbw⟩, by rw [← HE.out.2]; exact hvr, hbel.trans (hbw.mono hbel.size)⟩
    · obtain ⟨j, rfl⟩ : ∃ j, k = j + 1 := ⟨k - 1, by omega⟩
      have ej : (((j + 1 : Nat) : Int) - 1) = (j : Int) := by omega
      rw [ej]
      clear ej h0
      have hcell3 := ro3.cell (show j < n - m + 1 by omega)
      have hU : V (sh hr j) (m + 1) < W * V hb1 m := by
        have e : V (sh hr j) (m + 1) = hr j + W * V (sh hr (j + 1)) m := V_sh_head hr j m
        have h1 : W * (V (sh hr (j + 1)) m + 1) ≤ W * V hb1 m := Nat.mul_le_mul_left _ HR.out
        have h2 := HWR.out j (by omega)
        rw [Nat.mul_add] at h1
        omega
      have HQ := Lib.hid (qdig_any w1.heap.size (n + 1) j (n + 1 - j) w.heap.size 0 m (m + 1) hb1 hr wr (by omega) (by omega) hm (by omega) (by omega) ro2 (by omega) (by have := ro1.lt; omega)
        (fun i hi => by rw [Nat.zero_add]; exact ro1.cell (by omega)) (fun i hi => HW1.out i (by omega)) HWR.out HND.out.2 hU)
      clear hU
      go_wp2_with fail
      rw [show j + m + 1 - j = m + 1 from by omega]
      (with_reducible refine HQ.out.mono ?_)
      rintro e w3 ⟨q, h, rfl, hq, hqW, r1, r2, r3, r4, r5⟩
      have ro3' : Row w3 w2.heap.size (n - m + 1) ho := ro3.block (r5.block w2.heap.size ro3.lt (fun e => by injection e with e; omega))
      have hcellx := ro3'.cell (show j < n - m + 1 by omega)
      have hfrx := ro3'.frozen j
      have Q1 := Lib.hid hq
      have Q2 := Lib.hid hqW
      have R2 := Lib.hid r2
      have R3 := Lib.hid r3
      have R4 := Lib.hid r4
      clear hq hqW r2 r3 r4
      go_wp2_with fail
      exact ⟨lrel_step (by omega) hk (fun i hi => HW1.out i (by omega)) ro1 ro3 HWR.out HSA.out HWO.out HR.out HV.out hbel hsz (by omega) (by omega) (by omega) (by omega) (by omega) Q1.out Q2.out r1 R2.out R3.out R4.out r5 rfl rfl rfl, by simp [intOf]⟩
end Go.Proofs.YtmfnpipmbpnfbaaGreatDoor
