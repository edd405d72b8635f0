/- What a slice of digits in memory reads as, and the smallest functions on it.  The product of two lists of digits in memory. -/
import Derived.Test.YtfhmhkbjcccejaaGreatDoorProg
import Derived.Test.YtfhmhkbjcccejaaGreatDoorZ00
import Derived.WalkKit
import Derived.WalkSpells
import Derived.Below
import Derived.Lib.Hide
import Derived.KernelRfl
import Derived.Deep.QuietTactic
import Derived.BigQuiet
import Derived.Outline
import Derived.Deep.DeepFit
import Derived.Deep.OwnRows
import Derived.Deep.AppendLies

namespace Go.Proofs.YtfhmhkbjcccejaaGreatDoor
open Go.RowKit

/-- The slice at A with n elements holds the digits f. -/
def Dg (w : World) (A : Option Addr) (n : Nat) (f : Nat → Nat) : Prop :=
  0 < n → ∃ b off, A = some ⟨b, off, none⟩ ∧ b < w.heap.size ∧ ∀ i, i < n → w.cell? ⟨b, off + i, none⟩ = some (.int .u32 ((f i : Nat) : Int))

/-- The digits, with zeros behind. -/
def ext (f : Nat → Nat) (n : Nat) : Nat → Nat := fun k => if k < n then f k else 0

/-- The memory of the slice is one of digits. -/
def TT (w : World) (A : Option Addr) (n : Nat) : Prop := 0 < n → ∃ b off, A = some ⟨b, off, none⟩ ∧ ∃ cs fr, w.heap[b]? = some (.cells cs 101 fr)

theorem lt_of_heap {w : World} {b : Nat} {o : Obj} (h : w.heap[b]? = some o) : b < w.heap.size := by
  obtain ⟨hlt, _⟩ := Array.getElem?_eq_some_iff.1 h
  exact hlt

theorem TT.keep {w w' : World} {A : Option Addr} {n : Nat} (h : TT w A n) (hb : Below w.heap.size w w') : TT w' A n := by
  intro hn
  obtain ⟨b, off, hA, cs, fr, hc⟩ := h hn
  exact ⟨b, off, hA, cs, fr, (hb.block b (lt_of_heap hc)).trans hc⟩
theorem TT.sub {w : World} {A : Option Addr} {n k : Nat} (h : TT w A n) (hk : k ≤ n) : TT w A k := fun h0 => h (by omega)

/-- The slice value v reads as the number x without leading zeros. -/
def D (w : World) (v : Value) (x : Nat) : Prop :=
  ∃ A n c f, v = .slice A n c ∧ n ≤ c ∧ (∀ i, i < n → f i < W) ∧ Nrm f n ∧ V f n = x ∧ Dg w A n f ∧ TT w A n

theorem Dg.keep {w w' : World} {A : Option Addr} {n : Nat} {f : Nat → Nat} (h : Dg w A n f) (hb : Below w.heap.size w w') : Dg w' A n f := by
  intro hn
  obtain ⟨b, off, hA, hlt, hc⟩ := h hn
  exact ⟨b, off, hA, Nat.lt_of_lt_of_le hlt hb.size, fun i hi => (hb.cell (p := ⟨b, off + i, none⟩) hlt).trans (hc i hi)⟩

theorem Dg.sub {w : World} {A : Option Addr} {n k : Nat} {f : Nat → Nat} (h : Dg w A n f) (hk : k ≤ n) : Dg w A k f := by
  intro h0
  obtain ⟨b, off, hA, hlt, hc⟩ := h (by omega)
  exact ⟨b, off, hA, hlt, fun i hi => hc i (by omega)⟩

theorem D.keep {w w' : World} {v : Value} {x : Nat} (h : D w v x) (hb : Below w.heap.size w w') : D w' v x := by
  obtain ⟨A, n, c, f, h1, h2, h3, h4, h5, h6, h7⟩ := h
  exact ⟨A, n, c, f, h1, h2, h3, h4, h5, h6.keep hb, h7.keep hb⟩

/-- exact.digits.at, inside. -/
theorem at_in (A : Option Addr) (n c : Nat) (f : Nat → Nat) (i : Int) (w : World) (h0 : 0 ≤ i) (hi : i < n) (hn : n ≤ 1000000) (h : Dg w A n f) :
    Calls Tryz.prog 79 #[.slice A n c, .int .i64 i] w fun e w' => e = .returned (.int .u32 ((ext f n i.toNat : Nat) : Int)) ∧ w = w' := by
  obtain ⟨k, rfl⟩ := Int.eq_ofNat_of_zero_le h0
  have hk : k < n := by omega
  obtain ⟨b, off, rfl, hb, hc⟩ := h (by omega)
  have hcell := hc k hk
  have he : ext f n (k : Int).toNat = f k := by simp [ext, hk]
  rw [he]
  clear hc he
  go_enter Tryz.func79, Tryz.ntmps79
  go_wp2
  go_ret
  exact ⟨rfl, rfl⟩

/-- exact.digits.at, beyond. -/
theorem at_out (A : Option Addr) (n c : Nat) (f : Nat → Nat) (i : Int) (w : World) (h0 : (n : Int) ≤ i) (hi : i ≤ 1000002) :
    Calls Tryz.prog 79 #[.slice A n c, .int .i64 i] w fun e w' => e = .returned (.int .u32 ((ext f n i.toNat : Nat) : Int)) ∧ w = w' := by
  obtain ⟨k, rfl⟩ := Int.eq_ofNat_of_zero_le (show 0 ≤ i by omega)
  have hk : ¬ k < n := by omega
  have he : ext f n (k : Int).toNat = 0 := by simp [ext, hk]
  rw [he]
  clear he
  go_enter Tryz.func79, Tryz.ntmps79
  go_wp2
  go_ret
  exact ⟨rfl, rfl⟩

theorem at_any (A : Option Addr) (n c : Nat) (f : Nat → Nat) (i : Int) (w : World) (h0 : 0 ≤ i) (hi : i ≤ 1000002) (hn : n ≤ 1000000) (h : Dg w A n f) :
    Calls Tryz.prog 79 #[.slice A n c, .int .i64 i] w fun e w' => e = .returned (.int .u32 ((ext f n i.toNat : Nat) : Int)) ∧ w = w' := by
  by_cases hk : i < n
  · exact at_in A n c f i w h0 hk hn h
  · exact at_out A n c f i w (by omega) hi

/-- cmp.Compare at int. -/
def cmpI (x y : Int) : Int := if x < y then -1 else if y < x then 1 else 0
theorem cmp_int (x y : Int) (w : World) : Calls Tryz.prog 106 #[.int .i64 x, .int .i64 y] w fun e w' => e = .returned (.int .i64 (cmpI x y)) ∧ w = w' := by
  rcases Int.lt_trichotomy x y with h | h | h
  · have e : cmpI x y = -1 := by simp [cmpI, h]
    rw [e]; clear e
    go_enter Tryz.func106, Tryz.ntmps106
    go_wp2
    go_ret
    exact ⟨rfl, rfl⟩
  · subst h
    have e : cmpI x x = 0 := by simp [cmpI]
    rw [e]; clear e
    go_enter Tryz.func106, Tryz.ntmps106
    go_wp2
    go_ret
    exact ⟨rfl, rfl⟩
  · have e : cmpI x y = 1 := by unfold cmpI; rw [if_neg (by omega), if_pos h]
    have h' : ¬ x < y := by omega
    rw [e]; clear e
    go_enter Tryz.func106, Tryz.ntmps106
    go_wp2
    go_ret
    exact ⟨rfl, rfl⟩

theorem cmp_u32 (x y : Int) (w : World) : Calls Tryz.prog 107 #[.int .u32 x, .int .u32 y] w fun e w' => e = .returned (.int .i64 (cmpI x y)) ∧ w = w' := by
  rcases Int.lt_trichotomy x y with h | h | h
  · have e : cmpI x y = -1 := by simp [cmpI, h]
    rw [e]; clear e
    go_enter Tryz.func107, Tryz.ntmps107
    go_wp2
    go_ret
    exact ⟨rfl, rfl⟩
  · subst h
    have e : cmpI x x = 0 := by simp [cmpI]
    rw [e]; clear e
    go_enter Tryz.func107, Tryz.ntmps107
    go_wp2
    go_ret
    exact ⟨rfl, rfl⟩
  · have e : cmpI x y = 1 := by unfold cmpI; rw [if_neg (by omega), if_pos h]
    have h' : ¬ x < y := by omega
    rw [e]; clear e
    go_enter Tryz.func107, Tryz.ntmps107
    go_wp2
    go_ret
    exact ⟨rfl, rfl⟩

theorem ext_lt {f : Nat → Nat} {n : Nat} (h : ∀ i, i < n → f i < W) (k : Nat) : ext f n k < 4294967296 := by
  unfold ext
  split
  · exact h k ‹_›
  · decide

theorem ext_in {f : Nat → Nat} {n k : Nat} (h : k < n) : ext f n k = f k := by simp [ext, h]
theorem ext_out {f : Nat → Nat} {n k : Nat} (h : n ≤ k) : ext f n k = 0 := by unfold ext; rw [if_neg (by omega)]

theorem V_ext {f : Nat → Nat} {n N : Nat} (h : n ≤ N) : V (ext f n) N = V f n := by
  rw [V_tail h fun i h1 _ => ext_out h1]
  exact V_congr fun i hi => ext_in hi

/-- What a function that makes a number returns. -/
def RetD (x : Nat) (w : World) (e : Ending) (w' : World) : Prop := ∃ v, e = .returned v ∧ D w' v x ∧ Below w.heap.size w w'

/-- Block g is a row of n digits. -/
def Row (w : World) (g n : Nat) (f : Nat → Nat) : Prop := w.rowIs g 101 n (fun j => .int .u32 ((f j : Nat) : Int))

theorem Row.cell {w : World} {g n : Nat} {f : Nat → Nat} (h : Row w g n f) {i : Nat} (hi : i < n) : w.cell? ⟨g, i, none⟩ = some (.int .u32 ((f i : Nat) : Int)) := World.rowIs.cell h hi
theorem Row.frozen {w : World} {g n : Nat} {f : Nat → Nat} (h : Row w g n f) (i : Nat) : w.frozen? ⟨g, i, none⟩ = false := World.rowIs.frozen h i
theorem Row.lt {w : World} {g n : Nat} {f : Nat → Nat} (h : Row w g n f) : g < w.heap.size := World.rowIs.lt h
theorem Row.set {w : World} {g n : Nat} {f : Nat → Nat} (h : Row w g n f) (i x : Nat) : Row (w.setCell ⟨g, i, none⟩ (.int .u32 (x : Int))) g n (up f i x) := by
  refine World.rowIs.congr (World.rowIs.set h i _) fun j _ => ?_
  unfold up
  split <;> rfl
theorem Row.drewN {w : World} {g n : Nat} {f : Nat → Nat} (h : Row w g n f) (k : Nat) : Row (w.drewN k) g n f := h
theorem Row.drew {w : World} {g n : Nat} {f : Nat → Nat} (h : Row w g n f) : Row w.drew g n f := h
theorem Row.new (w : World) (n : Nat) : Row (w.alloc (.cells (madeCells #[.int .u32 0] n) 101)) w.heap.size n (fun _ => 0) := World.rowIs_made w _ n 101
theorem Row.dg {w : World} {g n c : Nat} {f : Nat → Nat} (h : Row w g c f) (hn : n ≤ c) : Dg w (some ⟨g, 0, none⟩) n f :=
  fun _ => ⟨g, 0, rfl, h.lt, fun i hi => by rw [Nat.zero_add]; exact h.cell (by omega)⟩
theorem Row.tt {w : World} {g n : Nat} {f : Nat → Nat} (h : Row w g n f) (k : Nat) : TT w (some ⟨g, 0, none⟩) k := fun _ => by
  obtain ⟨cs, hc, _⟩ := h
  exact ⟨g, 0, rfl, cs, _, hc⟩
theorem Row.block {w w' : World} {g n : Nat} {f : Nat → Nat} (h : Row w g n f) (e : w'.heap[g]? = w.heap[g]?) : Row w' g n f := World.rowIs.of_block h e
theorem Row.keep {w w' : World} {g n : Nat} {f : Nat → Nat} (h : Row w g n f) (hb : Below w.heap.size w w') : Row w' g n f := h.block (hb.block g h.lt)
theorem Dg.drewN {w : World} {A : Option Addr} {n : Nat} {f : Nat → Nat} (h : Dg w A n f) (k : Nat) : Dg (w.drewN k) A n f := h
theorem Dg.drew {w : World} {A : Option Addr} {n : Nat} {f : Nat → Nat} (h : Dg w A n f) : Dg w.drew A n f := h

theorem info98 : (Tryz.prog.info? 101).map (fun i => (i.zero, i.size, i.bytes)) = some (some (.int .u32 0), 1, 4) := by kernel_rfl
theorem make_row (n : Nat) (h : n ≤ 4000000) (w : World) :
    (Instr.makeSlice 43 (.int .i64 (n : Int)) (.int .i64 (n : Int))).run Tryz.prog w = .ok (.slice (some ⟨w.heap.size, 0, none⟩) n n) (w.alloc (.cells (madeCells #[.int .u32 0] n) 101)) :=
  run_make_row' (P := Tryz.prog) 43 101 (.int .u32 0) 4 Tryz.underlying43 info98 rfl .i64 .i64 n (by omega) (by omega) w

theorem top32 (z : Nat) (h : z < 4294967296) : z / 2147483648 = (z.testBit 31).toNat := by
  rw [Nat.testBit_eq_decide_div_mod_eq]
  have e : (2:Nat)^31 = 2147483648 := by decide
  rw [e]
  by_cases g : z / 2147483648 % 2 = 1 <;> simp [g] <;> omega

theorem top32b (z : Nat) (h : z < 4294967296) : z.testBit 31 = decide (2147483648 ≤ z) := by
  have := top32 z h
  by_cases g : 2147483648 ≤ z
  · have e : z / 2147483648 = 1 := by omega
    rw [e] at this
    cases hb : z.testBit 31 <;> simp_all
  · have e : z / 2147483648 = 0 := by omega
    rw [e] at this
    cases hb : z.testBit 31 <;> simp_all

theorem sub32_nat (x y b d : Nat) (hx : x < 4294967296) (hy : y < 4294967296) (hb : b ≤ 1) (hd : (d : Int) = ((x : Int) - y - b) % 4294967296) :
    (((4294967295 ^^^ x) &&& y) ||| ((4294967295 ^^^ (x ^^^ y)) &&& d)) / 2147483648 = if x < y + b then 1 else 0 := by
  have hd2 : d < 4294967296 := by omega
  have b1 : (4294967295 ^^^ x) &&& y < 4294967296 := Nat.lt_of_le_of_lt Nat.and_le_right hy
  have b2 : (4294967295 ^^^ (x ^^^ y)) &&& d < 4294967296 := Nat.lt_of_le_of_lt Nat.and_le_right hd2
  have hz : ((4294967295 ^^^ x) &&& y) ||| ((4294967295 ^^^ (x ^^^ y)) &&& d) < 4294967296 := Nat.or_lt_two_pow (n := 32) b1 b2
  have e1 : Nat.testBit 4294967295 31 = true := by decide
  rw [top32 _ hz, Nat.testBit_or, Nat.testBit_and, Nat.testBit_and, Nat.testBit_xor, Nat.testBit_xor, Nat.testBit_xor, e1, top32b x hx, top32b y hy, top32b d hd2]
  by_cases g1 : 2147483648 ≤ x <;> by_cases g2 : 2147483648 ≤ y <;> by_cases g3 : 2147483648 ≤ d <;> by_cases g4 : x < y + b <;> simp [g1, g2, g3, g4] <;> omega

theorem sub32_bits (x y b : Int) (h1 : 0 ≤ x) (h2 : x < 4294967296) (h3 : 0 ≤ y) (h4 : y < 4294967296) (h5 : 0 ≤ b) (h6 : b ≤ 1) :
    bits BinOp.or IntKind.u32 (bits BinOp.and IntKind.u32 (bits BinOp.xor IntKind.u32 IntKind.u32.max x) y)
      (bits BinOp.and IntKind.u32 (bits BinOp.xor IntKind.u32 IntKind.u32.max (bits BinOp.xor IntKind.u32 x y)) ((x - y - b) % 4294967296)) / 2147483648 = if x < y + b then 1 else 0 := by
  obtain ⟨x, rfl⟩ := Int.eq_ofNat_of_zero_le h1
  obtain ⟨y, rfl⟩ := Int.eq_ofNat_of_zero_le h3
  obtain ⟨b, rfl⟩ := Int.eq_ofNat_of_zero_le h5
  obtain ⟨d, hd⟩ := Int.eq_ofNat_of_zero_le (show 0 ≤ ((x : Int) - y - b) % 4294967296 by omega)
  have hx : x < 4294967296 := by omega
  have hy : y < 4294967296 := by omega
  have hd2 : d < 4294967296 := by omega
  have em : IntKind.u32.max = ((4294967295 : Nat) : Int) := rfl
  have k1 : 4294967295 ^^^ x < 4294967296 := Nat.xor_lt_two_pow (n := 32) (by decide) hx
  have k2 : x ^^^ y < 4294967296 := Nat.xor_lt_two_pow (n := 32) hx hy
  have k3 : 4294967295 ^^^ (x ^^^ y) < 4294967296 := Nat.xor_lt_two_pow (n := 32) (by decide) k2
  have b1 : (4294967295 ^^^ x) &&& y < 4294967296 := Nat.lt_of_le_of_lt Nat.and_le_right hy
  have b2 : (4294967295 ^^^ (x ^^^ y)) &&& d < 4294967296 := Nat.lt_of_le_of_lt Nat.and_le_right hd2
  rw [hd, em, u32_xor_nat _ _ (by decide) hx, u32_xor_nat x y hx hy, u32_xor_nat _ _ (by decide) k2, u32_and_nat _ _ k1 hy, u32_and_nat _ _ k3 hd2, u32_or_nat _ _ b1 b2]
  have := sub32_nat x y b d hx hy (by omega) hd.symm
  have e2 : (if (x : Int) < y + b then (1 : Int) else 0) = ((if x < y + b then 1 else 0 : Nat) : Int) := by split <;> split <;> omega
  rw [e2, ← this]
  omega

/-- The borrow. -/
def bor (x y : Int) : Int := if x < y then 1 else 0
theorem bor_01 (x y : Int) : 0 ≤ bor x y ∧ bor x y ≤ 1 := by unfold bor; split <;> omega

theorem sub32_any (x y b : Int) (w : World) (h1 : 0 ≤ x) (h2 : x < 4294967296) (h3 : 0 ≤ y) (h4 : y < 4294967296) (h5 : 0 ≤ b) (h6 : b ≤ 1) :
    Calls Tryz.prog 111 #[.int .u32 x, .int .u32 y, .int .u32 b] w fun e w' => e = .returned (.tuple #[.int .u32 ((x - y - b) % 4294967296), .int .u32 (bor x (y + b))]) ∧ w = w' := by
  have H := Lib.hid (sub32_bits x y b h1 h2 h3 h4 h5 h6)
  go_enter Tryz.func111, Tryz.ntmps111
  go_wp2_with fail
  go_ret2
  refine ⟨?_, rfl⟩
  simp only [bor, ← H.out]
  rfl

end Go.Proofs.YtfhmhkbjcccejaaGreatDoor

namespace Go.Proofs.YtfhmhkbjcccejaaGreatDoor
open Go.RowKit

def slen (v : Value) : Nat := match v with | .slice _ k _ => k | _ => 0

theorem trim_any (A : Option Addr) (n c : Nat) (f : Nat → Nat) (w : World) (hn : n ≤ c) (hc : c ≤ 4000000) (hA : Dg w A n f) :
    Calls Tryz.prog 77 #[.slice A n c] w fun e w' => ∃ k, e = .returned (.slice A k c) ∧ k ≤ n ∧ Nrm f k ∧ V f k = V f n ∧ w = w' := by
  go_enter Tryz.func77, Tryz.ntmps77
  go_wp2
  go_loop [0] (fun s => ∃ k : Nat, k ≤ n ∧ s = .slice A k c ∧ Hid (V f k = V f n)) (fun s => slen s)
  case atStart => exact ⟨n, Nat.le_refl _, rfl, rfl⟩
  case round =>
    obtain ⟨k, hk, rfl, hv⟩ := hrel
    rcases Nat.eq_zero_or_pos k with h0 | h0
    · subst h0
      go_wp2
      go_ret
      exact ⟨0, rfl, hk, Or.inl rfl, hv.out, rfl⟩
    · obtain ⟨b, off, hA', hb, hcell⟩ := hA (by omega)
      subst hA'
      have hcell1 := hcell (k - 1) (by omega)
      clear hcell
      by_cases hz : f (k - 1) = 0
      · have hv2 : Hid (V f (k - 1) = V f n) := by
          have := hv.out
          obtain ⟨m, rfl⟩ : ∃ m, k = m + 1 := ⟨k - 1, by omega⟩
          rw [V_succ] at this
          simp only [Nat.add_sub_cancel] at hz ⊢
          show V f m = V f n
          rw [hz] at this; simpa using this
        rw [hz] at hcell1
        clear hz
        go_wp2
        exact ⟨⟨k - 1, by omega, rfl, hv2⟩, by simp [slen]; omega⟩
      · have hz2 : ((f (k - 1) : Int) == 0) = false := by simpa using hz
        have HZ := Lib.hid hz
        clear hz
        go_wp2
        go_ret
        exact ⟨k, rfl, hk, Or.inr HZ.out, hv.out, rfl⟩

/-- What has been added after k digits. -/
def AddRel (w : World) (N n m : Nat) (f g : Nat → Nat) (carry i : Value) (wr : World) : Prop :=
  ∃ (k c : Nat) (h : Nat → Nat), k ≤ N ∧ i = .int .i64 (k : Int) ∧ carry = .int .u64 (c : Int) ∧ c ≤ 1 ∧ (∀ j, j < k → h j < W) ∧ V h k + c * W ^ k = V (ext f n) k + V (ext g m) k ∧
    Row wr w.heap.size N h ∧ Below w.heap.size w wr

theorem addrel_start (w : World) (N n m : Nat) (f g : Nat → Nat) : AddRel w N n m f g (.int .u64 0) (.int .i64 0) (w.alloc (.cells (madeCells #[.int .u32 0] N) 101)) :=
  ⟨0, 0, fun _ => 0, Nat.zero_le _, rfl, rfl, by omega, fun j hj => by omega, by simp [V_zero], Row.new w N, (Below.refl _ _).alloc (Nat.le_refl _) _⟩

theorem addrel_step {w wr : World} {N n m k c : Nat} {f g h : Nat → Nat} (hk : k < N) (hc : c ≤ 1) (hf : ∀ i, i < n → f i < W) (hg : ∀ i, i < m → g i < W) (hh : ∀ j, j < k → h j < W)
    (hv : V h k + c * W ^ k = V (ext f n) k + V (ext g m) k) (hrow : Row wr w.heap.size N h) (hbel : Below w.heap.size w wr) {a s : Int} {i : Value}
    (hs : s = ((ext f n k : Nat) : Int) + ((ext g m k : Nat) : Int) + (c : Int)) (ha : a = (k : Int) + 1) (hi : i = .int .i64 a) :
    AddRel w N n m f g (.int .u64 (s / 4294967296)) i (wr.setCell ⟨w.heap.size, k, none⟩ (.int .u32 (s % 4294967296))) := by
  subst hs ha hi
  have b1 := ext_lt hf k
  have b2 := ext_lt hg k
  obtain ⟨t, ht⟩ : ∃ t, t = ext f n k + ext g m k + c := ⟨_, rfl⟩
  have e1 : ((ext f n k : Nat) : Int) + ((ext g m k : Nat) : Int) + (c : Int) = (t : Int) := by omega
  rw [e1]
  have e2 : (t : Int) % 4294967296 = ((t % W : Nat) : Int) := by rw [W_eq]; omega
  have e3 : (t : Int) / 4294967296 = ((t / W : Nat) : Int) := by rw [W_eq]; omega
  rw [e2, e3]
  refine ⟨k + 1, t / W, up h k (t % W), by omega, by rw [show ((k + 1 : Nat) : Int) = (k : Int) + 1 from by omega], rfl, by rw [W_eq]; omega, ?_, ?_, hrow.set k _, hbel.setCell (Nat.le_refl _) _⟩
  · intro j hj
    by_cases e : j = k
    · rw [e, up_at]; exact Nat.mod_lt _ W_pos
    · rw [up_far h _ e]; exact hh j (by omega)
  · rw [V_succ, V_succ, V_succ, up_at, V_up_below h _ (Nat.le_refl k)]
    exact add_step _ _ hv ht

theorem addrel_end {n m N k c : Nat} {f g h : Nat → Nat} (hk : k = N) (hn : n < N) (hm : m < N) (hf : ∀ i, i < n → f i < W) (hg : ∀ i, i < m → g i < W)
    (hv : V h k + c * W ^ k = V (ext f n) k + V (ext g m) k) : V h N = V f n + V g m := by
  subst hk
  rw [V_ext (by omega), V_ext (by omega)] at hv
  have b1 := V_lt hf
  have b2 := V_lt hg
  obtain ⟨M, rfl⟩ : ∃ M, k = M + 1 := ⟨k - 1, by omega⟩
  have c1 := pow_le (show n ≤ M by omega)
  have c2 := pow_le (show m ≤ M by omega)
  have c3 : W ^ (M + 1) = 4294967296 * W ^ M := by rw [pow_succ', Nat.mul_comm]; rfl
  rcases Nat.eq_zero_or_pos c with h0 | h0
  · subst h0; omega
  · have := Nat.mul_le_mul_right (W ^ (M + 1)) h0
    omega

theorem below_trans_same {a b c : World} (h : Below a.heap.size a b) (k : Below b.heap.size b c) : Below a.heap.size a c := h.trans (k.mono h.size)

set_option maxRecDepth 100000 in
theorem add_lt (A B : Option Addr) (n m ca cb : Nat) (f g : Nat → Nat) (w : World) (hnm : n < m) (hn : n ≤ 1000000) (hm : m ≤ 1000000) (hA : Dg w A n f) (hB : Dg w B m g)
    (hf : ∀ i, i < n → f i < W) (hg : ∀ i, i < m → g i < W) :
    Calls Tryz.prog 54 #[.slice A n ca, .slice B m cb] w (RetD (V f n + V g m) w) := by
  have hmk := make_row (m + 1) (by omega)
  have ec : ((m + 1 : Nat) : Int) = (m : Int) + 1 := by omega
  rw [ec] at hmk
  have HF := Lib.hid hf
  have HG := Lib.hid hg
  clear hf hg
  go_enter Tryz.func54, Tryz.ntmps54
  go_wp2_with fail
  clear hmk ec
  go_loopw [6, 18] (fun c i wr => AddRel w (m + 1) n m f g c i wr) (fun _ i _ => m + 1 - (intOf i).toNat)
  case atStart => exact addrel_start w (m + 1) n m f g
  case round =>
    obtain ⟨k, c, h, hk, rfl, rfl, hc, hh, hv, hrow, hbel⟩ := hrel
    have HH := Lib.hid hh
    have HV := Lib.hid hv
    clear hh hv
    by_cases hlt : k < m + 1
    · have hA1 : Dg wr A n f := hA.keep hbel
      have hB1 : Dg wr B m g := hB.keep hbel
      have b1 := ext_lt HF.out k
      have b2 := ext_lt HG.out k
      have hcell := hrow.cell hlt
      have hfr := hrow.frozen k
      go_wp2_with (first | ((with_reducible refine (at_any A n ca f (k : Int) _ (by omega) (by omega) (by omega) hA1).mono ?_); rintro e w' ⟨rfl, rfl⟩) | ((with_reducible refine (at_any B m cb g (k : Int) _ (by omega) (by omega) (by omega) hB1).mono ?_); rintro e w' ⟨rfl, rfl⟩))
      go_roundw
      case rel => exact addrel_step hlt hc HF.out HG.out HH.out HV.out hrow hbel rfl rfl rfl
      case measure => simp [intOf]; omega
    · have hke : k = m + 1 := by omega
      have HE := Lib.hid (addrel_end hke (show n < m + 1 by omega) (show m < m + 1 by omega) HF.out HG.out HV.out)
      have HD := Lib.hid (hrow.dg (Nat.le_refl _))
      have HH2 : Hid (∀ j, j < m + 1 → h j < W) := by have := HH.out; rw [hke] at this; exact this
      clear hke HV HH
      go_wp2_with ((with_reducible refine (trim_any _ _ _ h _ (Nat.le_refl _) (by omega) HD.out).mono ?_); rintro e w' ⟨q, rfl, hq, hN, hQ, rfl⟩)
      go_ret
      refine ⟨_, rfl, ⟨_, q, _, h, rfl, by omega, fun i hi => HH2.out i (by omega), hN, hQ.trans HE.out, ?_, hrow.tt _⟩, hbel⟩
      intro h0
      obtain ⟨b, off, e1, e2, e3⟩ := HD.out (by omega)
      exact ⟨b, off, e1, e2, fun i hi => e3 i (by omega)⟩

set_option maxRecDepth 100000 in
theorem add_ge (A B : Option Addr) (n m ca cb : Nat) (f g : Nat → Nat) (w : World) (hnm : ¬ n < m) (hn : n ≤ 1000000) (hm : m ≤ 1000000) (hA : Dg w A n f) (hB : Dg w B m g)
    (hf : ∀ i, i < n → f i < W) (hg : ∀ i, i < m → g i < W) :
    Calls Tryz.prog 54 #[.slice A n ca, .slice B m cb] w (RetD (V f n + V g m) w) := by
  have hmk := make_row (n + 1) (by omega)
  have ec : ((n + 1 : Nat) : Int) = (n : Int) + 1 := by omega
  rw [ec] at hmk
  have HF := Lib.hid hf
  have HG := Lib.hid hg
  clear hf hg
  go_enter Tryz.func54, Tryz.ntmps54
  go_wp2_with fail
  clear hmk ec
  go_loopw [6, 18] (fun c i wr => AddRel w (n + 1) n m f g c i wr) (fun _ i _ => n + 1 - (intOf i).toNat)
  case atStart => exact addrel_start w (n + 1) n m f g
  case round =>
    obtain ⟨k, c, h, hk, rfl, rfl, hc, hh, hv, hrow, hbel⟩ := hrel
    have HH := Lib.hid hh
    have HV := Lib.hid hv
    clear hh hv
    by_cases hlt : k < n + 1
    · have hA1 : Dg wr A n f := hA.keep hbel
      have hB1 : Dg wr B m g := hB.keep hbel
      have b1 := ext_lt HF.out k
      have b2 := ext_lt HG.out k
      have hcell := hrow.cell hlt
      have hfr := hrow.frozen k
      go_wp2_with (first | ((with_reducible refine (at_any A n ca f (k : Int) _ (by omega) (by omega) (by omega) hA1).mono ?_); rintro e w' ⟨rfl, rfl⟩) | ((with_reducible refine (at_any B m cb g (k : Int) _ (by omega) (by omega) (by omega) hB1).mono ?_); rintro e w' ⟨rfl, rfl⟩))
      go_roundw
      case rel => exact addrel_step hlt hc HF.out HG.out HH.out HV.out hrow hbel rfl rfl rfl
      case measure => simp [intOf]; omega
    · have hke : k = n + 1 := by omega
      have HE := Lib.hid (addrel_end hke (show n < n + 1 by omega) (show m < n + 1 by omega) HF.out HG.out HV.out)
      have HD := Lib.hid (hrow.dg (Nat.le_refl _))
      have HH2 : Hid (∀ j, j < n + 1 → h j < W) := by have := HH.out; rw [hke] at this; exact this
      clear hke HV HH
      go_wp2_with ((with_reducible refine (trim_any _ _ _ h _ (Nat.le_refl _) (by omega) HD.out).mono ?_); rintro e w' ⟨q, rfl, hq, hN, hQ, rfl⟩)
      go_ret
      refine ⟨_, rfl, ⟨_, q, _, h, rfl, by omega, fun i hi => HH2.out i (by omega), hN, hQ.trans HE.out, ?_, hrow.tt _⟩, hbel⟩
      intro h0
      obtain ⟨b, off, e1, e2, e3⟩ := HD.out (by omega)
      exact ⟨b, off, e1, e2, fun i hi => e3 i (by omega)⟩

theorem add_any (A B : Option Addr) (n m ca cb : Nat) (f g : Nat → Nat) (w : World) (hn : n ≤ 1000000) (hm : m ≤ 1000000) (hA : Dg w A n f) (hB : Dg w B m g)
    (hf : ∀ i, i < n → f i < W) (hg : ∀ i, i < m → g i < W) :
    Calls Tryz.prog 54 #[.slice A n ca, .slice B m cb] w (RetD (V f n + V g m) w) := by
  by_cases hnm : n < m
  · exact add_lt A B n m ca cb f g w hnm hn hm hA hB hf hg
  · exact add_ge A B n m ca cb f g w hnm hn hm hA hB hf hg

end Go.Proofs.YtfhmhkbjcccejaaGreatDoor

namespace Go.Proofs.YtfhmhkbjcccejaaGreatDoor
open Go.RowKit

/-- The digits from o on. -/
def sh (h : Nat → Nat) (o : Nat) : Nat → Nat := fun j => h (o + j)

/-- What has been added to the row g0 from o on, after k digits. -/
def MRel (w : World) (g0 N o m x : Nat) (g h0 : Nat → Nat) (carry i : Value) (wr : World) : Prop :=
  ∃ (k c : Nat) (h : Nat → Nat), k ≤ m ∧ i = .int .i64 (k : Int) ∧ carry = .int .u64 (c : Int) ∧ c < 4294967296 ∧ Row wr g0 N h ∧ (∀ j, j < o ∨ o + k ≤ j → h j = h0 j) ∧ (∀ j, j < k → sh h o j < W) ∧
    V (sh h o) k + c * W ^ k = V (sh h0 o) k + x * V g k ∧ w.grownBy wr (some g0)

theorem grown_set {w wr : World} {g0 : Nat} (h : w.grownBy wr (some g0)) (o : Nat) (u : Value) : w.grownBy (wr.setCell ⟨g0, o, none⟩ u) (some g0) :=
  ⟨h.os, h.tape, h.output, by simpa [World.setCell] using h.size, fun i hi hne => (Below.heap_setCell _ _ _ i (by
    rintro rfl
    exact hne rfl)).trans (h.block i hi hne)⟩

theorem mrel_start (w : World) {g0 N o m x : Nat} {g h0 : Nat → Nat} (hrow : Row w g0 N h0) : MRel w g0 N o m x g h0 (.int .u64 0) (.int .i64 0) w :=
  ⟨0, 0, h0, Nat.zero_le _, rfl, rfl, by omega, hrow, fun _ _ => rfl, fun j hj => by omega, by simp [V_zero], World.grownBy.refl w _⟩

theorem mrel_step {w wr : World} {g0 N o m x k c : Nat} {g h0 h : Nat → Nat} (hk : k < m) (hc : c < 4294967296) (hx : x < 4294967296) (hg : g k < 4294967296) (hh0 : h0 (o + k) < 4294967296) (hrow : Row wr g0 N h)
    (hsame : ∀ j, j < o ∨ o + k ≤ j → h j = h0 j) (hh : ∀ j, j < k → sh h o j < W) (hv : V (sh h o) k + c * W ^ k = V (sh h0 o) k + x * V g k) (hgr : w.grownBy wr (some g0)) {a s : Int} {i : Value}
    (hs : s = (x : Int) * ((g k : Nat) : Int) + ((h (o + k) : Nat) : Int) + (c : Int)) (ha : a = (k : Int) + 1) (hi : i = .int .i64 a) :
    MRel w g0 N o m x g h0 (.int .u64 (s / 4294967296)) i (wr.setCell ⟨g0, o + k, none⟩ (.int .u32 (s % 4294967296))) := by
  subst hs ha hi
  have e0 : h (o + k) = h0 (o + k) := hsame _ (Or.inr (Nat.le_refl _))
  have hp : x * g k ≤ 4294967295 * 4294967295 := Nat.mul_le_mul (by omega) (by omega)
  obtain ⟨t, ht⟩ : ∃ t, t = x * g k + h (o + k) + c := ⟨_, rfl⟩
  have e1 : (x : Int) * ((g k : Nat) : Int) + ((h (o + k) : Nat) : Int) + (c : Int) = (t : Int) := by rw [ht, Int.natCast_add, Int.natCast_add, Int.natCast_mul]
  rw [e1]
  have e2 : (t : Int) % 4294967296 = ((t % W : Nat) : Int) := by rw [W_eq]; omega
  have e3 : (t : Int) / 4294967296 = ((t / W : Nat) : Int) := by rw [W_eq]; omega
  rw [e2, e3]
  have hup : V (sh (up h (o + k) (t % W)) o) k = V (sh h o) k := V_congr fun j hj => by unfold sh; exact up_far h _ (by omega)
  have hat : sh (up h (o + k) (t % W)) o k = t % W := by unfold sh; exact up_at _ _ _
  refine ⟨k + 1, t / W, up h (o + k) (t % W), by omega, by rw [show ((k + 1 : Nat) : Int) = (k : Int) + 1 from by omega], rfl, ?_, hrow.set _ _, ?_, ?_, ?_, grown_set hgr _ _⟩
  · rw [W_eq]; omega
  · intro j hj
    rw [up_far h _ (by omega)]
    exact hsame j (by omega)
  · intro j hj
    by_cases e : j = k
    · rw [e, hat]; exact Nat.mod_lt _ W_pos
    · have : sh (up h (o + k) (t % W)) o j = sh h o j := by unfold sh; exact up_far h _ (by omega)
      rw [this]; exact hh j (by omega)
  · rw [V_succ, V_succ, V_succ, hat, hup]
    have : sh h0 o k = h (o + k) := e0.symm
    rw [this]
    exact mac_step _ _ hv ht

/-- What addMultiple leaves. -/
def RetM (w : World) (g0 N o m x : Nat) (g h0 : Nat → Nat) (e : Ending) (w' : World) : Prop :=
  ∃ (c : Nat) (h : Nat → Nat), e = .returned (.int .u32 (c : Int)) ∧ c < 4294967296 ∧ Row w' g0 N h ∧ (∀ j, j < o ∨ o + m ≤ j → h j = h0 j) ∧ (∀ j, j < m → sh h o j < W) ∧
    V (sh h o) m + c * W ^ m = V (sh h0 o) m + x * V g m ∧ w.grownBy w' (some g0)

set_option maxRecDepth 100000 in
set_option maxHeartbeats 1000000 in
theorem addM_any (g0 N o n ca : Nat) (B : Option Addr) (m cb : Nat) (g h0 : Nat → Nat) (x : Nat) (w : World) (hN : N ≤ 4000000) (hm : m ≤ 1000000) (hmn : m ≤ n) (hoN : o + n ≤ N) (hrow : Row w g0 N h0) (hB : Dg w B m g)
    (hne : ∀ b off, B = some ⟨b, off, none⟩ → 0 < m → b ≠ g0) (hg : ∀ i, i < m → g i < W) (hh : ∀ i, i < N → h0 i < W) (hx : x < 4294967296) :
    Calls Tryz.prog 78 #[.slice (some ⟨g0, o, none⟩) n ca, .slice B m cb, .int .u32 (x : Int)] w (RetM w g0 N o m x g h0) := by
  have HG := Lib.hid hg
  have HH0 := Lib.hid hh
  have HNE := Lib.hid hne
  clear hg hh hne
  go_enter Tryz.func78, Tryz.ntmps78
  go_wp2_with fail
  go_loopw [7, 13] (fun c i wr => MRel w g0 N o m x g h0 c i wr) (fun _ i _ => m - (intOf i).toNat)
  case atStart => exact mrel_start w hrow
  case round =>
    obtain ⟨k, c, h, hk, rfl, rfl, hc, hrow1, hsame, hh, hv, hgr⟩ := hrel
    have HS := Lib.hid hsame
    have HH := Lib.hid hh
    have HV := Lib.hid hv
    clear hh hv hsame
    by_cases hlt : k < m
    · obtain ⟨b, off, rfl, hb, hcells⟩ := hB (by omega)
      have hbne : b ≠ g0 := HNE.out b off rfl (by omega)
      have hc1 : wr.cell? ⟨b, off + k, none⟩ = some (.int .u32 ((g k : Nat) : Int)) := (World.cell?_of_block (w := w) (a := ⟨b, off + k, none⟩) (hgr.block b hb (fun e => hbne (by injection e)))).trans (hcells k hlt)
      have b1 : g k < 4294967296 := HG.out k hlt
      have b2 : h0 (o + k) < 4294967296 := HH0.out (o + k) (by omega)
      have b3 : h (o + k) < 4294967296 := by rw [HS.out (o + k) (Or.inr (Nat.le_refl _))]; exact b2
      have hcell := hrow1.cell (show o + k < N by omega)
      have hfr := hrow1.frozen (o + k)
      have hp1 : (x : Int) * ((g k : Nat) : Int) ≤ 18446744065119617025 := by
        have : x * g k ≤ 4294967295 * 4294967295 := Nat.mul_le_mul (by omega) (by omega)
        have e : ((x * g k : Nat) : Int) = (x : Int) * ((g k : Nat) : Int) := Int.natCast_mul _ _
        omega
      have hp0 : 0 ≤ (x : Int) * ((g k : Nat) : Int) := by
        have e : ((x * g k : Nat) : Int) = (x : Int) * ((g k : Nat) : Int) := Int.natCast_mul _ _
        omega
      clear hcells hbne
      go_wp2_with fail
      go_roundw
      case rel => exact mrel_step hlt hc hx b1 b2 hrow1 HS.out HH.out HV.out hgr rfl rfl rfl
      case measure => simp [intOf]; omega
    · have hke : k = m := by omega
      go_wp2_with fail
      go_ret
      subst hke
      exact ⟨c, h, rfl, hc, hrow1, HS.out, HH.out, HV.out, hgr⟩

end Go.Proofs.YtfhmhkbjcccejaaGreatDoor
