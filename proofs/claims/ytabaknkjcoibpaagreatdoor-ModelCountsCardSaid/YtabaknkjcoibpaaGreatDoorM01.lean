/- What a slice of digits in memory reads as, and the smallest functions on it.  The order of two lists of digits in memory; words. -/
import Derived.Test.YtabaknkjcoibpaaGreatDoorProg
import Derived.Test.YtabaknkjcoibpaaGreatDoorM00
import Derived.WalkKit
import Derived.WalkSpells
import Derived.Below
import Derived.Lib.Hide
import Derived.KernelRfl
import Derived.Deep.QuietTactic
import Derived.BigQuiet
import Derived.Outline
import Derived.Deep.DeepFit
import Derived.Deep.OwnRows
import Derived.Deep.RegionWith
import Derived.BigRegion

namespace Go.Proofs.YtabaknkjcoibpaaGreatDoor
open Go.RowKit

/-- The slice at A with n elements holds the digits f. -/
def Dg (w : World) (A : Option Addr) (n : Nat) (f : Nat → Nat) : Prop :=
  0 < n → ∃ b off, A = some ⟨b, off, none⟩ ∧ b < w.heap.size ∧ ∀ i, i < n → w.cell? ⟨b, off + i, none⟩ = some (.int .u32 ((f i : Nat) : Int))

/-- The digits, with zeros behind. -/
def ext (f : Nat → Nat) (n : Nat) : Nat → Nat := fun k => if k < n then f k else 0

/-- The memory of the slice is one of digits. -/
def TT (w : World) (A : Option Addr) (n : Nat) : Prop := 0 < n → ∃ b off, A = some ⟨b, off, none⟩ ∧ ∃ cs fr, w.heap[b]? = some (.cells cs 193 fr)

theorem lt_of_heap {w : World} {b : Nat} {o : Obj} (h : w.heap[b]? = some o) : b < w.heap.size := by
  obtain ⟨hlt, _⟩ := Array.getElem?_eq_some_iff.1 h
  exact hlt

theorem TT.keep {w w' : World} {A : Option Addr} {n : Nat} (h : TT w A n) (hb : Below w.heap.size w w') : TT w' A n := by
  intro hn
  obtain ⟨b, off, hA, cs, fr, hc⟩ := h hn
  exact ⟨b, off, hA, cs, fr, (hb.block b (lt_of_heap hc)).trans hc⟩
theorem TT.sub {w : World} {A : Option Addr} {n k : Nat} (h : TT w A n) (hk : k ≤ n) : TT w A k := fun h0 => h (by omega)

/-- The slice value v reads as the number x without leading zeros. -/
def D (w : World) (v : Value) (x : Nat) : Prop :=
  ∃ A n c f, v = .slice A n c ∧ n ≤ c ∧ (∀ i, i < n → f i < W) ∧ Nrm f n ∧ V f n = x ∧ Dg w A n f ∧ TT w A n

theorem Dg.keep {w w' : World} {A : Option Addr} {n : Nat} {f : Nat → Nat} (h : Dg w A n f) (hb : Below w.heap.size w w') : Dg w' A n f := by
  intro hn
  obtain ⟨b, off, hA, hlt, hc⟩ := h hn
  exact ⟨b, off, hA, Nat.lt_of_lt_of_le hlt hb.size, fun i hi => (hb.cell (p := ⟨b, off + i, none⟩) hlt).trans (hc i hi)⟩

theorem Dg.sub {w : World} {A : Option Addr} {n k : Nat} {f : Nat → Nat} (h : Dg w A n f) (hk : k ≤ n) : Dg w A k f := by
  intro h0
  obtain ⟨b, off, hA, hlt, hc⟩ := h (by omega)
  exact ⟨b, off, hA, hlt, fun i hi => hc i (by omega)⟩

theorem D.keep {w w' : World} {v : Value} {x : Nat} (h : D w v x) (hb : Below w.heap.size w w') : D w' v x := by
  obtain ⟨A, n, c, f, h1, h2, h3, h4, h5, h6, h7⟩ := h
  exact ⟨A, n, c, f, h1, h2, h3, h4, h5, h6.keep hb, h7.keep hb⟩

/-- exact.digits.at, inside. -/
theorem at_in (A : Option Addr) (n c : Nat) (f : Nat → Nat) (i : Int) (w : World) (h0 : 0 ≤ i) (hi : i < n) (hn : n ≤ 1000000) (h : Dg w A n f) :
    Calls Tryz.prog 270 #[.slice A n c, .int .i64 i] w fun e w' => e = .returned (.int .u32 ((ext f n i.toNat : Nat) : Int)) ∧ w = w' := by
  obtain ⟨k, rfl⟩ := Int.eq_ofNat_of_zero_le h0
  have hk : k < n := by omega
  obtain ⟨b, off, rfl, hb, hc⟩ := h (by omega)
  have hcell := hc k hk
  have he : ext f n (k : Int).toNat = f k := by simp [ext, hk]
  rw [he]
  clear hc he
  go_enter Tryz.func270, Tryz.ntmps270
  go_wp2
  go_ret
  exact ⟨rfl, rfl⟩

/-- exact.digits.at, beyond. -/
theorem at_out (A : Option Addr) (n c : Nat) (f : Nat → Nat) (i : Int) (w : World) (h0 : (n : Int) ≤ i) (hi : i ≤ 1000002) :
    Calls Tryz.prog 270 #[.slice A n c, .int .i64 i] w fun e w' => e = .returned (.int .u32 ((ext f n i.toNat : Nat) : Int)) ∧ w = w' := by
  obtain ⟨k, rfl⟩ := Int.eq_ofNat_of_zero_le (show 0 ≤ i by omega)
  have hk : ¬ k < n := by omega
  have he : ext f n (k : Int).toNat = 0 := by simp [ext, hk]
  rw [he]
  clear he
  go_enter Tryz.func270, Tryz.ntmps270
  go_wp2
  go_ret
  exact ⟨rfl, rfl⟩

theorem at_any (A : Option Addr) (n c : Nat) (f : Nat → Nat) (i : Int) (w : World) (h0 : 0 ≤ i) (hi : i ≤ 1000002) (hn : n ≤ 1000000) (h : Dg w A n f) :
    Calls Tryz.prog 270 #[.slice A n c, .int .i64 i] w fun e w' => e = .returned (.int .u32 ((ext f n i.toNat : Nat) : Int)) ∧ w = w' := by
  by_cases hk : i < n
  · exact at_in A n c f i w h0 hk hn h
  · exact at_out A n c f i w (by omega) hi

/-- cmp.Compare at int. -/
def cmpI (x y : Int) : Int := if x < y then -1 else if y < x then 1 else 0
theorem cmp_int (x y : Int) (w : World) : Calls Tryz.prog 112 #[.int .i64 x, .int .i64 y] w fun e w' => e = .returned (.int .i64 (cmpI x y)) ∧ w = w' := by
  rcases Int.lt_trichotomy x y with h | h | h
  · have e : cmpI x y = -1 := by simp [cmpI, h]
    rw [e]; clear e
    go_enter Tryz.func112, Tryz.ntmps112
    go_wp2
    go_ret
    exact ⟨rfl, rfl⟩
  · subst h
    have e : cmpI x x = 0 := by simp [cmpI]
    rw [e]; clear e
    go_enter Tryz.func112, Tryz.ntmps112
    go_wp2
    go_ret
    exact ⟨rfl, rfl⟩
  · have e : cmpI x y = 1 := by unfold cmpI; rw [if_neg (by omega), if_pos h]
    have h' : ¬ x < y := by omega
    rw [e]; clear e
    go_enter Tryz.func112, Tryz.ntmps112
    go_wp2
    go_ret
    exact ⟨rfl, rfl⟩

theorem cmp_u32 (x y : Int) (w : World) : Calls Tryz.prog 246 #[.int .u32 x, .int .u32 y] w fun e w' => e = .returned (.int .i64 (cmpI x y)) ∧ w = w' := by
  rcases Int.lt_trichotomy x y with h | h | h
  · have e : cmpI x y = -1 := by simp [cmpI, h]
    rw [e]; clear e
    go_enter Tryz.func246, Tryz.ntmps246
    go_wp2
    go_ret
    exact ⟨rfl, rfl⟩
  · subst h
    have e : cmpI x x = 0 := by simp [cmpI]
    rw [e]; clear e
    go_enter Tryz.func246, Tryz.ntmps246
    go_wp2
    go_ret
    exact ⟨rfl, rfl⟩
  · have e : cmpI x y = 1 := by unfold cmpI; rw [if_neg (by omega), if_pos h]
    have h' : ¬ x < y := by omega
    rw [e]; clear e
    go_enter Tryz.func246, Tryz.ntmps246
    go_wp2
    go_ret
    exact ⟨rfl, rfl⟩

theorem ext_lt {f : Nat → Nat} {n : Nat} (h : ∀ i, i < n → f i < W) (k : Nat) : ext f n k < 4294967296 := by
  unfold ext
  split
  · exact h k ‹_›
  · decide

theorem ext_in {f : Nat → Nat} {n k : Nat} (h : k < n) : ext f n k = f k := by simp [ext, h]
theorem ext_out {f : Nat → Nat} {n k : Nat} (h : n ≤ k) : ext f n k = 0 := by unfold ext; rw [if_neg (by omega)]

theorem V_ext {f : Nat → Nat} {n N : Nat} (h : n ≤ N) : V (ext f n) N = V f n := by
  rw [V_tail h fun i h1 _ => ext_out h1]
  exact V_congr fun i hi => ext_in hi

/-- What a function that makes a number returns. -/
def RetD (x : Nat) (w : World) (e : Ending) (w' : World) : Prop := ∃ v, e = .returned v ∧ D w' v x ∧ Below w.heap.size w w'

/-- Block g is a row of n digits. -/
def Row (w : World) (g n : Nat) (f : Nat → Nat) : Prop := w.rowIs g 193 n (fun j => .int .u32 ((f j : Nat) : Int))

theorem Row.cell {w : World} {g n : Nat} {f : Nat → Nat} (h : Row w g n f) {i : Nat} (hi : i < n) : w.cell? ⟨g, i, none⟩ = some (.int .u32 ((f i : Nat) : Int)) := World.rowIs.cell h hi
theorem Row.frozen {w : World} {g n : Nat} {f : Nat → Nat} (h : Row w g n f) (i : Nat) : w.frozen? ⟨g, i, none⟩ = false := World.rowIs.frozen h i
theorem Row.lt {w : World} {g n : Nat} {f : Nat → Nat} (h : Row w g n f) : g < w.heap.size := World.rowIs.lt h
theorem Row.set {w : World} {g n : Nat} {f : Nat → Nat} (h : Row w g n f) (i x : Nat) : Row (w.setCell ⟨g, i, none⟩ (.int .u32 (x : Int))) g n (up f i x) := by
  refine World.rowIs.congr (World.rowIs.set h i _) fun j _ => ?_
  unfold up
  split <;> rfl
theorem Row.drewN {w : World} {g n : Nat} {f : Nat → Nat} (h : Row w g n f) (k : Nat) : Row (w.drewN k) g n f := h
theorem Row.drew {w : World} {g n : Nat} {f : Nat → Nat} (h : Row w g n f) : Row w.drew g n f := h
theorem Row.new (w : World) (n : Nat) : Row (w.alloc (.cells (madeCells #[.int .u32 0] n) 193)) w.heap.size n (fun _ => 0) := World.rowIs_made w _ n 193
theorem Row.dg {w : World} {g n c : Nat} {f : Nat → Nat} (h : Row w g c f) (hn : n ≤ c) : Dg w (some ⟨g, 0, none⟩) n f :=
  fun _ => ⟨g, 0, rfl, h.lt, fun i hi => by rw [Nat.zero_add]; exact h.cell (by omega)⟩
theorem Row.tt {w : World} {g n : Nat} {f : Nat → Nat} (h : Row w g n f) (k : Nat) : TT w (some ⟨g, 0, none⟩) k := fun _ => by
  obtain ⟨cs, hc, _⟩ := h
  exact ⟨g, 0, rfl, cs, _, hc⟩
theorem Row.block {w w' : World} {g n : Nat} {f : Nat → Nat} (h : Row w g n f) (e : w'.heap[g]? = w.heap[g]?) : Row w' g n f := World.rowIs.of_block h e
theorem Row.keep {w w' : World} {g n : Nat} {f : Nat → Nat} (h : Row w g n f) (hb : Below w.heap.size w w') : Row w' g n f := h.block (hb.block g h.lt)
theorem Dg.drewN {w : World} {A : Option Addr} {n : Nat} {f : Nat → Nat} (h : Dg w A n f) (k : Nat) : Dg (w.drewN k) A n f := h
theorem Dg.drew {w : World} {A : Option Addr} {n : Nat} {f : Nat → Nat} (h : Dg w A n f) : Dg w.drew A n f := h

theorem info98 : (Tryz.prog.info? 193).map (fun i => (i.zero, i.size, i.bytes)) = some (some (.int .u32 0), 1, 4) := by kernel_rfl
theorem make_row (n : Nat) (h : n ≤ 4000000) (w : World) :
    (Instr.makeSlice 181 (.int .i64 (n : Int)) (.int .i64 (n : Int))).run Tryz.prog w = .ok (.slice (some ⟨w.heap.size, 0, none⟩) n n) (w.alloc (.cells (madeCells #[.int .u32 0] n) 193)) :=
  run_make_row' (P := Tryz.prog) 181 193 (.int .u32 0) 4 Tryz.underlying181 info98 rfl .i64 .i64 n (by omega) (by omega) w

theorem top32 (z : Nat) (h : z < 4294967296) : z / 2147483648 = (z.testBit 31).toNat := by
  rw [Nat.testBit_eq_decide_div_mod_eq]
  have e : (2:Nat)^31 = 2147483648 := by decide
  rw [e]
  by_cases g : z / 2147483648 % 2 = 1 <;> simp [g] <;> omega

theorem top32b (z : Nat) (h : z < 4294967296) : z.testBit 31 = decide (2147483648 ≤ z) := by
  have := top32 z h
  by_cases g : 2147483648 ≤ z
  · have e : z / 2147483648 = 1 := by omega
    rw [e] at this
    cases hb : z.testBit 31 <;> simp_all
  · have e : z / 2147483648 = 0 := by omega
    rw [e] at this
    cases hb : z.testBit 31 <;> simp_all

theorem sub32_nat (x y b d : Nat) (hx : x < 4294967296) (hy : y < 4294967296) (hb : b ≤ 1) (hd : (d : Int) = ((x : Int) - y - b) % 4294967296) :
    (((4294967295 ^^^ x) &&& y) ||| ((4294967295 ^^^ (x ^^^ y)) &&& d)) / 2147483648 = if x < y + b then 1 else 0 := by
  have hd2 : d < 4294967296 := by omega
  have b1 : (4294967295 ^^^ x) &&& y < 4294967296 := Nat.lt_of_le_of_lt Nat.and_le_right hy
  have b2 : (4294967295 ^^^ (x ^^^ y)) &&& d < 4294967296 := Nat.lt_of_le_of_lt Nat.and_le_right hd2
  have hz : ((4294967295 ^^^ x) &&& y) ||| ((4294967295 ^^^ (x ^^^ y)) &&& d) < 4294967296 := Nat.or_lt_two_pow (n := 32) b1 b2
  have e1 : Nat.testBit 4294967295 31 = true := by decide
  rw [top32 _ hz, Nat.testBit_or, Nat.testBit_and, Nat.testBit_and, Nat.testBit_xor, Nat.testBit_xor, Nat.testBit_xor, e1, top32b x hx, top32b y hy, top32b d hd2]
  by_cases g1 : 2147483648 ≤ x <;> by_cases g2 : 2147483648 ≤ y <;> by_cases g3 : 2147483648 ≤ d <;> by_cases g4 : x < y + b <;> simp [g1, g2, g3, g4] <;> omega

theorem sub32_bits (x y b : Int) (h1 : 0 ≤ x) (h2 : x < 4294967296) (h3 : 0 ≤ y) (h4 : y < 4294967296) (h5 : 0 ≤ b) (h6 : b ≤ 1) :
    bits BinOp.or IntKind.u32 (bits BinOp.and IntKind.u32 (bits BinOp.xor IntKind.u32 IntKind.u32.max x) y)
      (bits BinOp.and IntKind.u32 (bits BinOp.xor IntKind.u32 IntKind.u32.max (bits BinOp.xor IntKind.u32 x y)) ((x - y - b) % 4294967296)) / 2147483648 = if x < y + b then 1 else 0 := by
  obtain ⟨x, rfl⟩ := Int.eq_ofNat_of_zero_le h1
  obtain ⟨y, rfl⟩ := Int.eq_ofNat_of_zero_le h3
  obtain ⟨b, rfl⟩ := Int.eq_ofNat_of_zero_le h5
  obtain ⟨d, hd⟩ := Int.eq_ofNat_of_zero_le (show 0 ≤ ((x : Int) - y - b) % 4294967296 by omega)
  have hx : x < 4294967296 := by omega
  have hy : y < 4294967296 := by omega
  have hd2 : d < 4294967296 := by omega
  have em : IntKind.u32.max = ((4294967295 : Nat) : Int) := rfl
  have k1 : 4294967295 ^^^ x < 4294967296 := Nat.xor_lt_two_pow (n := 32) (by decide) hx
  have k2 : x ^^^ y < 4294967296 := Nat.xor_lt_two_pow (n := 32) hx hy
  have k3 : 4294967295 ^^^ (x ^^^ y) < 4294967296 := Nat.xor_lt_two_pow (n := 32) (by decide) k2
  have b1 : (4294967295 ^^^ x) &&& y < 4294967296 := Nat.lt_of_le_of_lt Nat.and_le_right hy
  have b2 : (4294967295 ^^^ (x ^^^ y)) &&& d < 4294967296 := Nat.lt_of_le_of_lt Nat.and_le_right hd2
  rw [hd, em, u32_xor_nat _ _ (by decide) hx, u32_xor_nat x y hx hy, u32_xor_nat _ _ (by decide) k2, u32_and_nat _ _ k1 hy, u32_and_nat _ _ k3 hd2, u32_or_nat _ _ b1 b2]
  have := sub32_nat x y b d hx hy (by omega) hd.symm
  have e2 : (if (x : Int) < y + b then (1 : Int) else 0) = ((if x < y + b then 1 else 0 : Nat) : Int) := by split <;> split <;> omega
  rw [e2, ← this]
  omega

/-- The borrow. -/
def bor (x y : Int) : Int := if x < y then 1 else 0
theorem bor_01 (x y : Int) : 0 ≤ bor x y ∧ bor x y ≤ 1 := by unfold bor; split <;> omega

theorem sub32_any (x y b : Int) (w : World) (h1 : 0 ≤ x) (h2 : x < 4294967296) (h3 : 0 ≤ y) (h4 : y < 4294967296) (h5 : 0 ≤ b) (h6 : b ≤ 1) :
    Calls Tryz.prog 271 #[.int .u32 x, .int .u32 y, .int .u32 b] w fun e w' => e = .returned (.tuple #[.int .u32 ((x - y - b) % 4294967296), .int .u32 (bor x (y + b))]) ∧ w = w' := by
  have H := Lib.hid (sub32_bits x y b h1 h2 h3 h4 h5 h6)
  go_enter Tryz.func271, Tryz.ntmps271
  go_wp2_with fail
  go_ret2
  refine ⟨?_, rfl⟩
  simp only [bor, ← H.out]
  rfl

end Go.Proofs.YtabaknkjcoibpaaGreatDoor

namespace Go.Proofs.YtabaknkjcoibpaaGreatDoor
open Go.RowKit

def slen (v : Value) : Nat := match v with | .slice _ k _ => k | _ => 0

theorem trim_any (A : Option Addr) (n c : Nat) (f : Nat → Nat) (w : World) (hn : n ≤ c) (hc : c ≤ 4000000) (hA : Dg w A n f) :
    Calls Tryz.prog 247 #[.slice A n c] w fun e w' => ∃ k, e = .returned (.slice A k c) ∧ k ≤ n ∧ Nrm f k ∧ V f k = V f n ∧ w = w' := by
  go_enter Tryz.func247, Tryz.ntmps247
  go_wp2
  go_loop [0] (fun s => ∃ k : Nat, k ≤ n ∧ s = .slice A k c ∧ Hid (V f k = V f n)) (fun s => slen s)
  case atStart => exact ⟨n, Nat.le_refl _, rfl, rfl⟩
  case round =>
    obtain ⟨k, hk, rfl, hv⟩ := hrel
    rcases Nat.eq_zero_or_pos k with h0 | h0
    · subst h0
      go_wp2
      go_ret
      exact ⟨0, rfl, hk, Or.inl rfl, hv.out, rfl⟩
    · obtain ⟨b, off, hA', hb, hcell⟩ := hA (by omega)
      subst hA'
      have hcell1 := hcell (k - 1) (by omega)
      clear hcell
      by_cases hz : f (k - 1) = 0
      · have hv2 : Hid (V f (k - 1) = V f n) := by
          have := hv.out
          obtain ⟨m, rfl⟩ : ∃ m, k = m + 1 := ⟨k - 1, by omega⟩
          rw [V_succ] at this
          simp only [Nat.add_sub_cancel] at hz ⊢
          show V f m = V f n
          rw [hz] at this; simpa using this
        rw [hz] at hcell1
        clear hz
        go_wp2
        exact ⟨⟨k - 1, by omega, rfl, hv2⟩, by simp [slen]; omega⟩
      · have hz2 : ((f (k - 1) : Int) == 0) = false := by simpa using hz
        have HZ := Lib.hid hz
        clear hz
        go_wp2
        go_ret
        exact ⟨k, rfl, hk, Or.inr HZ.out, hv.out, rfl⟩

/-- What has been added after k digits. -/
def AddRel (w : World) (N n m : Nat) (f g : Nat → Nat) (carry i : Value) (wr : World) : Prop :=
  ∃ (k c : Nat) (h : Nat → Nat), k ≤ N ∧ i = .int .i64 (k : Int) ∧ carry = .int .u64 (c : Int) ∧ c ≤ 1 ∧ (∀ j, j < k → h j < W) ∧ V h k + c * W ^ k = V (ext f n) k + V (ext g m) k ∧
    Row wr w.heap.size N h ∧ Below w.heap.size w wr

theorem addrel_start (w : World) (N n m : Nat) (f g : Nat → Nat) : AddRel w N n m f g (.int .u64 0) (.int .i64 0) (w.alloc (.cells (madeCells #[.int .u32 0] N) 193)) :=
  ⟨0, 0, fun _ => 0, Nat.zero_le _, rfl, rfl, by omega, fun j hj => by omega, by simp [V_zero], Row.new w N, (Below.refl _ _).alloc (Nat.le_refl _) _⟩

theorem addrel_step {w wr : World} {N n m k c : Nat} {f g h : Nat → Nat} (hk : k < N) (hc : c ≤ 1) (hf : ∀ i, i < n → f i < W) (hg : ∀ i, i < m → g i < W) (hh : ∀ j, j < k → h j < W)
    (hv : V h k + c * W ^ k = V (ext f n) k + V (ext g m) k) (hrow : Row wr w.heap.size N h) (hbel : Below w.heap.size w wr) {a s : Int} {i : Value}
    (hs : s = ((ext f n k : Nat) : Int) + ((ext g m k : Nat) : Int) + (c : Int)) (ha : a = (k : Int) + 1) (hi : i = .int .i64 a) :
    AddRel w N n m f g (.int .u64 (s / 4294967296)) i (wr.setCell ⟨w.heap.size, k, none⟩ (.int .u32 (s % 4294967296))) := by
  subst hs ha hi
  have b1 := ext_lt hf k
  have b2 := ext_lt hg k
  obtain ⟨t, ht⟩ : ∃ t, t = ext f n k + ext g m k + c := ⟨_, rfl⟩
  have e1 : ((ext f n k : Nat) : Int) + ((ext g m k : Nat) : Int) + (c : Int) = (t : Int) := by omega
  rw [e1]
  have e2 : (t : Int) % 4294967296 = ((t % W : Nat) : Int) := by rw [W_eq]; omega
  have e3 : (t : Int) / 4294967296 = ((t / W : Nat) : Int) := by rw [W_eq]; omega
  rw [e2, e3]
  refine ⟨k + 1, t / W, up h k (t % W), by omega, by rw [show ((k + 1 : Nat) : Int) = (k : Int) + 1 from by omega], rfl, by rw [W_eq]; omega, ?_, ?_, hrow.set k _, hbel.setCell (Nat.le_refl _) _⟩
  · intro j hj
    by_cases e : j = k
    · rw [e, up_at]; exact Nat.mod_lt _ W_pos
    · rw [up_far h _ e]; exact hh j (by omega)
  · rw [V_succ, V_succ, V_succ, up_at, V_up_below h _ (Nat.le_refl k)]
    exact add_step _ _ hv ht

theorem addrel_end {n m N k c : Nat} {f g h : Nat → Nat} (hk : k = N) (hn : n < N) (hm : m < N) (hf : ∀ i, i < n → f i < W) (hg : ∀ i, i < m → g i < W)
    (hv : V h k + c * W ^ k = V (ext f n) k + V (ext g m) k) : V h N = V f n + V g m := by
  subst hk
  rw [V_ext (by omega), V_ext (by omega)] at hv
  have b1 := V_lt hf
  have b2 := V_lt hg
  obtain ⟨M, rfl⟩ : ∃ M, k = M + 1 := ⟨k - 1, by omega⟩
  have c1 := pow_le (show n ≤ M by omega)
  have c2 := pow_le (show m ≤ M by omega)
  have c3 : W ^ (M + 1) = 4294967296 * W ^ M := by rw [pow_succ', Nat.mul_comm]; rfl
  rcases Nat.eq_zero_or_pos c with h0 | h0
  · subst h0; omega
  · have := Nat.mul_le_mul_right (W ^ (M + 1)) h0
    omega

theorem below_trans_same {a b c : World} (h : Below a.heap.size a b) (k : Below b.heap.size b c) : Below a.heap.size a c := h.trans (k.mono h.size)

set_option maxRecDepth 100000 in
theorem add_lt (A B : Option Addr) (n m ca cb : Nat) (f g : Nat → Nat) (w : World) (hnm : n < m) (hn : n ≤ 1000000) (hm : m ≤ 1000000) (hA : Dg w A n f) (hB : Dg w B m g)
    (hf : ∀ i, i < n → f i < W) (hg : ∀ i, i < m → g i < W) :
    Calls Tryz.prog 244 #[.slice A n ca, .slice B m cb] w (RetD (V f n + V g m) w) := by
  have hmk := make_row (m + 1) (by omega)
  have ec : ((m + 1 : Nat) : Int) = (m : Int) + 1 := by omega
  rw [ec] at hmk
  have HF := Lib.hid hf
  have HG := Lib.hid hg
  clear hf hg
  go_enter Tryz.func244, Tryz.ntmps244
  go_wp2_with fail
  clear hmk ec
  go_loopw [6, 18] (fun c i wr => AddRel w (m + 1) n m f g c i wr) (fun _ i _ => m + 1 - (intOf i).toNat)
  case atStart => exact addrel_start w (m + 1) n m f g
  case round =>
    obtain ⟨k, c, h, hk, rfl, rfl, hc, hh, hv, hrow, hbel⟩ := hrel
    have HH := Lib.hid hh
    have HV := Lib.hid hv
    clear hh hv
    by_cases hlt : k < m + 1
    · have hA1 : Dg wr A n f := hA.keep hbel
      have hB1 : Dg wr B m g := hB.keep hbel
      have b1 := ext_lt HF.out k
      have b2 := ext_lt HG.out k
      have hcell := hrow.cell hlt
      have hfr := hrow.frozen k
      go_wp2_with (first | ((with_reducible refine (at_any A n ca f (k : Int) _ (by omega) (by omega) (by omega) hA1).mono ?_); rintro e w' ⟨rfl, rfl⟩) | ((with_reducible refine (at_any B m cb g (k : Int) _ (by omega) (by omega) (by omega) hB1).mono ?_); rintro e w' ⟨rfl, rfl⟩))
      go_roundw
      case rel => exact addrel_step hlt hc HF.out HG.out HH.out HV.out hrow hbel rfl rfl rfl
      case measure => simp [intOf]; omega
    · have hke : k = m + 1 := by omega
      have HE := Lib.hid (addrel_end hke (show n < m + 1 by omega) (show m < m + 1 by omega) HF.out HG.out HV.out)
      have HD := Lib.hid (hrow.dg (Nat.le_refl _))
      have HH2 : Hid (∀ j, j < m + 1 → h j < W) := by have := HH.out; rw [hke] at this; exact this
      clear hke HV HH
      go_wp2_with ((with_reducible refine (trim_any _ _ _ h _ (Nat.le_refl _) (by omega) HD.out).mono ?_); rintro e w' ⟨q, rfl, hq, hN, hQ, rfl⟩)
      go_ret
      refine ⟨_, rfl, ⟨_, q, _, h, rfl, by omega, fun i hi => HH2.out i (by omega), hN, hQ.trans HE.out, ?_, hrow.tt _⟩, hbel⟩
      intro h0
      obtain ⟨b, off, e1, e2, e3⟩ := HD.out (by omega)
      exact ⟨b, off, e1, e2, fun i hi => e3 i (by omega)⟩

set_option maxRecDepth 100000 in
theorem add_ge (A B : Option Addr) (n m ca cb : Nat) (f g : Nat → Nat) (w : World) (hnm : ¬ n < m) (hn : n ≤ 1000000) (hm : m ≤ 1000000) (hA : Dg w A n f) (hB : Dg w B m g)
    (hf : ∀ i, i < n → f i < W) (hg : ∀ i, i < m → g i < W) :
    Calls Tryz.prog 244 #[.slice A n ca, .slice B m cb] w (RetD (V f n + V g m) w) := by
  have hmk := make_row (n + 1) (by omega)
  have ec : ((n + 1 : Nat) : Int) = (n : Int) + 1 := by omega
  rw [ec] at hmk
  have HF := Lib.hid hf
  have HG := Lib.hid hg
  clear hf hg
  go_enter Tryz.func244, Tryz.ntmps244
  go_wp2_with fail
  clear hmk ec
  go_loopw [6, 18] (fun c i wr => AddRel w (n + 1) n m f g c i wr) (fun _ i _ => n + 1 - (intOf i).toNat)
  case atStart => exact addrel_start w (n + 1) n m f g
  case round =>
    obtain ⟨k, c, h, hk, rfl, rfl, hc, hh, hv, hrow, hbel⟩ := hrel
    have HH := Lib.hid hh
    have HV := Lib.hid hv
    clear hh hv
    by_cases hlt : k < n + 1
    · have hA1 : Dg wr A n f := hA.keep hbel
      have hB1 : Dg wr B m g := hB.keep hbel
      have b1 := ext_lt HF.out k
      have b2 := ext_lt HG.out k
      have hcell := hrow.cell hlt
      have hfr := hrow.frozen k
      go_wp2_with (first | ((with_reducible refine (at_any A n ca f (k : Int) _ (by omega) (by omega) (by omega) hA1).mono ?_); rintro e w' ⟨rfl, rfl⟩) | ((with_reducible refine (at_any B m cb g (k : Int) _ (by omega) (by omega) (by omega) hB1).mono ?_); rintro e w' ⟨rfl, rfl⟩))
      go_roundw
      case rel => exact addrel_step hlt hc HF.out HG.out HH.out HV.out hrow hbel rfl rfl rfl
      case measure => simp [intOf]; omega
    · have hke : k = n + 1 := by omega
      have HE := Lib.hid (addrel_end hke (show n < n + 1 by omega) (show m < n + 1 by omega) HF.out HG.out HV.out)
      have HD := Lib.hid (hrow.dg (Nat.le_refl _))
      have HH2 : Hid (∀ j, j < n + 1 → h j < W) := by have := HH.out; rw [hke] at this; exact this
      clear hke HV HH
      go_wp2_with ((with_reducible refine (trim_any _ _ _ h _ (Nat.le_refl _) (by omega) HD.out).mono ?_); rintro e w' ⟨q, rfl, hq, hN, hQ, rfl⟩)
      go_ret
      refine ⟨_, rfl, ⟨_, q, _, h, rfl, by omega, fun i hi => HH2.out i (by omega), hN, hQ.trans HE.out, ?_, hrow.tt _⟩, hbel⟩
      intro h0
      obtain ⟨b, off, e1, e2, e3⟩ := HD.out (by omega)
      exact ⟨b, off, e1, e2, fun i hi => e3 i (by omega)⟩

theorem add_any (A B : Option Addr) (n m ca cb : Nat) (f g : Nat → Nat) (w : World) (hn : n ≤ 1000000) (hm : m ≤ 1000000) (hA : Dg w A n f) (hB : Dg w B m g)
    (hf : ∀ i, i < n → f i < W) (hg : ∀ i, i < m → g i < W) :
    Calls Tryz.prog 244 #[.slice A n ca, .slice B m cb] w (RetD (V f n + V g m) w) := by
  by_cases hnm : n < m
  · exact add_lt A B n m ca cb f g w hnm hn hm hA hB hf hg
  · exact add_ge A B n m ca cb f g w hnm hn hm hA hB hf hg

end Go.Proofs.YtabaknkjcoibpaaGreatDoor

namespace Go.Proofs.YtabaknkjcoibpaaGreatDoor
open Go.RowKit

theorem cmp_int_at (x y r : Int) (w : World) (h : cmpI x y = r) : Calls Tryz.prog 112 #[.int .i64 x, .int .i64 y] w fun e w' => e = .returned (.int .i64 r) ∧ w = w' := by
  rw [← h]; exact cmp_int x y w
theorem cmp_u32_at (x y r : Int) (w : World) (h : cmpI x y = r) : Calls Tryz.prog 246 #[.int .u32 x, .int .u32 y] w fun e w' => e = .returned (.int .i64 r) ∧ w = w' := by
  rw [← h]; exact cmp_u32 x y w

theorem cmpI_lt {x y : Int} (h : x < y) : cmpI x y = -1 := by simp [cmpI, h]
theorem cmpI_gt {x y : Int} (h : y < x) : cmpI x y = 1 := by unfold cmpI; rw [if_neg (by omega), if_pos h]
theorem cmpI_eq (x : Int) : cmpI x x = 0 := by simp [cmpI]

/-- The world differs by draws alone. -/
def Drn (w w' : World) : Prop := ∃ q, w' = w.drewN q
theorem Drn.refl (w : World) : Drn w w := ⟨0, rfl⟩
theorem Drn.cell {w w' : World} (h : Drn w w') (p : Addr) : w'.cell? p = w.cell? p := by obtain ⟨q, rfl⟩ := h; rfl
theorem Drn.more {w w' : World} (h : Drn w w') (n : Nat) : Drn w (w'.drewN n) := by obtain ⟨q, rfl⟩ := h; exact ⟨q + n, by rw [World.drewN_drewN]⟩
theorem Drn.more1 {w w' : World} (h : Drn w w') : Drn w w'.drew := h.more 1
theorem Drn.trans {a b c : World} (h : Drn a b) (k : Drn b c) : Drn a c := by obtain ⟨q, rfl⟩ := k; exact h.more q
theorem Drn.below {w w' : World} (h : Drn w w') (B : Nat) : Below B w w' := by obtain ⟨q, rfl⟩ := h; exact ⟨rfl, rfl, rfl, Nat.le_refl _, fun _ _ => rfl⟩
theorem Drn.size {w w' : World} (h : Drn w w') : w'.heap.size = w.heap.size := by obtain ⟨q, rfl⟩ := h; rfl
theorem Drn.dg {w w' : World} (h : Drn w w') {A : Option Addr} {n : Nat} {f : Nat → Nat} (hd : Dg w A n f) : Dg w' A n f := by obtain ⟨q, rfl⟩ := h; exact hd
theorem Drn.row {w w' : World} (h : Drn w w') {g n : Nat} {f : Nat → Nat} (hd : Row w g n f) : Row w' g n f := by obtain ⟨q, rfl⟩ := h; exact hd
theorem Drn.tt {w w' : World} (h : Drn w w') {A : Option Addr} {n : Nat} (hd : TT w A n) : TT w' A n := by obtain ⟨q, rfl⟩ := h; exact hd
theorem Drn.d {w w' : World} (h : Drn w w') {v : Value} {x : Nat} (hd : D w v x) : D w' v x := by obtain ⟨q, rfl⟩ := h; exact hd

set_option maxRecDepth 100000 in
set_option maxHeartbeats 1000000 in
theorem comp_same (A B : Option Addr) (n ca cb : Nat) (f g : Nat → Nat) (w : World) (hn : n ≤ 1000000) (hA : Dg w A n f) (hB : Dg w B n g)
    (hf : ∀ i, i < n → f i < W) (hg : ∀ i, i < n → g i < W) :
    Calls Tryz.prog 217 #[.slice A n ca, .slice B n cb] w fun e w' => e = .returned (.int .i64 (cmpI (V f n) (V g n))) ∧ Drn w w' := by
  have HF := Lib.hid hf
  have HG := Lib.hid hg
  clear hf hg
  go_enter Tryz.func217, Tryz.ntmps217
  go_wp2_with ((with_reducible refine (cmp_int_at _ _ 0 _ (cmpI_eq _)).mono ?_); rintro e w' ⟨rfl, rfl⟩)
  go_loopw [6] (fun i wr => ∃ k : Nat, k ≤ n ∧ i = .int .i64 ((k : Int) - 1) ∧ Hid (∀ j, k ≤ j → j < n → f j = g j) ∧ Drn w wr) (fun i _ => (intOf i + 1).toNat)
  case atStart => exact ⟨n, Nat.le_refl _, rfl, fun j h1 h2 => by omega, Drn.refl w⟩
  case round =>
    obtain ⟨k, hk, rfl, hs, hq⟩ := hrel
    rcases Nat.eq_zero_or_pos k with h0 | h0
    · subst h0
      have HE : Hid (cmpI (V f n) (V g n) = 0) := by
        have : V f n = V g n := V_congr fun i hi => hs.out i (Nat.zero_le _) hi
        rw [this]; exact cmpI_eq _
      go_wp2_with fail
      go_ret
      exact ⟨by rw [HE.out]; rfl, hq⟩
    · obtain ⟨b, off, rfl, hb, hcells⟩ := hA (by omega)
      obtain ⟨b', off', rfl, hb', hcells'⟩ := hB (by omega)
      obtain ⟨j, rfl⟩ : ∃ j, k = j + 1 := ⟨k - 1, by omega⟩
      have hc1 := (hq.cell ⟨b, off + j, none⟩).trans (hcells j (by omega))
      have hc2 := (hq.cell ⟨b', off' + j, none⟩).trans (hcells' j (by omega))
      have hjn : (j : Int) < (n : Int) := by omega
      clear hcells hcells'
      have ej : (((j + 1 : Nat) : Int) - 1) = (j : Int) := by omega
      rw [ej]
      clear ej h0
      rcases Nat.lt_trichotomy (f j) (g j) with h | h | h
      · have HC := Lib.hid (cmpI_lt (show ((f j : Nat) : Int) < ((g j : Nat) : Int) by omega))
        have HE : Hid (cmpI (V f n) (V g n) = -1) := cmpI_lt (by have := V_lt_of_digit (f := f) (g := g) (n := n) (i := j) (by omega) HF.out (fun i h1 h2 => hs.out i (by omega) h2) h; omega)
        clear h
        go_wp2_with fail
        go_quiet ((go_at_call 246; exact Calls.quiet_of_same ((cmp_u32_at _ _ (-1) _ HC.out).mono fun _ _ hh => ⟨hh.1, hh.2.symm⟩)))
        go_wp2_with fail
        go_ret
        exact ⟨by rw [HE.out]; rfl, hq.more _⟩
      · have HC : Hid (cmpI ((f j : Nat) : Int) ((g j : Nat) : Int) = 0) := by rw [h]; exact cmpI_eq _
        have hs2 : Hid (∀ i, j ≤ i → i < n → f i = g i) := fun i h1 h2 => by
          by_cases e : i = j
          · rw [e]; exact h
          · exact hs.out i (by omega) h2
        clear h
        go_wp2_with fail
        go_quiet ((go_at_call 246; exact Calls.quiet_of_same ((cmp_u32_at _ _ 0 _ HC.out).mono fun _ _ hh => ⟨hh.1, hh.2.symm⟩)))
        go_wp2_with fail
        exact ⟨⟨j, by omega, rfl, hs2, hq.more _⟩, by simp [intOf]⟩
      · have HC := Lib.hid (cmpI_gt (show ((g j : Nat) : Int) < ((f j : Nat) : Int) by omega))
        have HE : Hid (cmpI (V f n) (V g n) = 1) := cmpI_gt (by have := V_lt_of_digit (f := g) (g := f) (n := n) (i := j) (by omega) HG.out (fun i h1 h2 => (hs.out i (by omega) h2).symm) h; omega)
        clear h
        go_wp2_with fail
        go_quiet ((go_at_call 246; exact Calls.quiet_of_same ((cmp_u32_at _ _ 1 _ HC.out).mono fun _ _ hh => ⟨hh.1, hh.2.symm⟩)))
        go_wp2_with fail
        go_ret
        exact ⟨by rw [HE.out]; rfl, hq.more _⟩

set_option maxRecDepth 100000 in
theorem comp_any (A B : Option Addr) (n m ca cb : Nat) (f g : Nat → Nat) (w : World) (hn : n ≤ 1000000) (hA : Dg w A n f) (hB : Dg w B m g)
    (hf : ∀ i, i < n → f i < W) (hg : ∀ i, i < m → g i < W) (hfn : Nrm f n) (hgn : Nrm g m) :
    Calls Tryz.prog 217 #[.slice A n ca, .slice B m cb] w fun e w' => e = .returned (.int .i64 (cmpI (V f n) (V g m))) ∧ Drn w w' := by
  rcases Nat.lt_trichotomy n m with h | h | h
  · have HC := Lib.hid (cmpI_lt (show (n : Int) < (m : Int) by omega))
    have HE : Hid (cmpI (V f n) (V g m) = -1) := cmpI_lt (by have := V_lt_of_len hf hgn h; omega)
    rw [HE.out]
    clear HE hf hg hfn hgn hA hB h
    go_enter Tryz.func217, Tryz.ntmps217
    go_wp2_with ((with_reducible refine (cmp_int_at _ _ (-1) _ HC.out).mono ?_); rintro e w' ⟨rfl, rfl⟩)
    go_ret
    exact ⟨rfl, Drn.refl w⟩
  · subst h
    exact comp_same A B n ca cb f g w hn hA hB hf hg
  · have HC := Lib.hid (cmpI_gt (show (m : Int) < (n : Int) by omega))
    have HE : Hid (cmpI (V f n) (V g m) = 1) := cmpI_gt (by have := V_lt_of_len hg hfn h; omega)
    rw [HE.out]
    clear HE hf hg hfn hgn hA hB h
    go_enter Tryz.func217, Tryz.ntmps217
    go_wp2_with ((with_reducible refine (cmp_int_at _ _ 1 _ HC.out).mono ?_); rintro e w' ⟨rfl, rfl⟩)
    go_ret
    exact ⟨rfl, Drn.refl w⟩

end Go.Proofs.YtabaknkjcoibpaaGreatDoor
