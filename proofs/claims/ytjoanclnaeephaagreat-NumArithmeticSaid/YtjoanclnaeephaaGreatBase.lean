/- What a slice of digits in memory reads as, and the smallest functions on it. -/
import Derived.Test.YtjoanclnaeephaaGreatProg
import Derived.Test.YtjoanclnaeephaaGreatPlain2
import Derived.WalkKit
import Derived.WalkSpells
import Derived.Below
import Derived.Lib.Hide
import Derived.KernelRfl
import Derived.Deep.QuietTactic
import Derived.BigQuiet
import Derived.Outline
import Derived.Deep.DeepFit
import Derived.Deep.OwnRows
namespace Go.Proofs.YtjoanclnaeephaaGreat
open Go.RowKit

/-- The slice at A with n elements holds the digits f. -/
def Dg (w : World) (A : Option Addr) (n : Nat) (f : Nat → Nat) : Prop :=
  0 < n → ∃ b off, A = some ⟨b, off, none⟩ ∧ b < w.heap.size ∧ ∀ i, i < n → w.cell? ⟨b, off + i, none⟩ = some (.int .u32 ((f i : Nat) : Int))

/-- The digits, with zeros behind. -/
def ext (f : Nat → Nat) (n : Nat) : Nat → Nat := fun k => if k < n then f k else 0

/-- The memory of the slice is one of digits. -/
def TT (w : World) (A : Option Addr) (n : Nat) : Prop := 0 < n → ∃ b off, A = some ⟨b, off, none⟩ ∧ ∃ cs fr, w.heap[b]? = some (.cells cs 80 fr)

theorem lt_of_heap {w : World} {b : Nat} {o : Obj} (h : w.heap[b]? = some o) : b < w.heap.size := by
  obtain ⟨hlt, _⟩ := Array.getElem?_eq_some_iff.1 h
  exact hlt

theorem TT.keep {w w' : World} {A : Option Addr} {n : Nat} (h : TT w A n) (hb : Below w.heap.size w w') : TT w' A n := by
  intro hn
  obtain ⟨b, off, hA, cs, fr, hc⟩ := h hn
  exact ⟨b, off, hA, cs, fr, (hb.block b (lt_of_heap hc)).trans hc⟩
theorem TT.sub {w : World} {A : Option Addr} {n k : Nat} (h : TT w A n) (hk : k ≤ n) : TT w A k := fun h0 => h (by omega)

/-- The slice value v reads as the number x without leading zeros. -/
def D (w : World) (v : Value) (x : Nat) : Prop :=
  ∃ A n c f, v = .slice A n c ∧ n ≤ c ∧ (∀ i, i < n → f i < W) ∧ Nrm f n ∧ V f n = x ∧ Dg w A n f ∧ TT w A n

theorem Dg.keep {w w' : World} {A : Option Addr} {n : Nat} {f : Nat → Nat} (h : Dg w A n f) (hb : Below w.heap.size w w') : Dg w' A n f := by
  intro hn
  obtain ⟨b, off, hA, hlt, hc⟩ := h hn
  exact ⟨b, off, hA, Nat.lt_of_lt_of_le hlt hb.size, fun i hi => (hb.cell (p := ⟨b, off + i, none⟩) hlt).trans (hc i hi)⟩

theorem Dg.sub {w : World} {A : Option Addr} {n k : Nat} {f : Nat → Nat} (h : Dg w A n f) (hk : k ≤ n) : Dg w A k f := by
  intro h0
  obtain ⟨b, off, hA, hlt, hc⟩ := h (by omega)
  exact ⟨b, off, hA, hlt, fun i hi => hc i (by omega)⟩

theorem D.keep {w w' : World} {v : Value} {x : Nat} (h : D w v x) (hb : Below w.heap.size w w') : D w' v x := by
  obtain ⟨A, n, c, f, h1, h2, h3, h4, h5, h6, h7⟩ := h
  exact ⟨A, n, c, f, h1, h2, h3, h4, h5, h6.keep hb, h7.keep hb⟩

/-- exact.digits.at, inside. -/
theorem at_in (A : Option Addr) (n c : Nat) (f : Nat → Nat) (i : Int) (w : World) (h0 : 0 ≤ i) (hi : i < n) (hn : n ≤ 1000000) (h : Dg w A n f) :
    Calls Tryz.prog 86 #[.slice A n c, .int .i64 i] w fun e w' => e = .returned (.int .u32 ((ext f n i.toNat : Nat) : Int)) ∧ w = w' := by
  obtain ⟨k, rfl⟩ := Int.eq_ofNat_of_zero_le h0
  have hk : k < n := by omega
  obtain ⟨b, off, rfl, hb, hc⟩ := h (by omega)
  have hcell := hc k hk
  have he : ext f n (k : Int).toNat = f k := by simp [ext, hk]
  rw [he]
  clear hc he
  go_enter Tryz.func86, Tryz.ntmps86
  go_wp2
  go_ret
  exact ⟨rfl, rfl⟩

/-- exact.digits.at, beyond. -/
theorem at_out (A : Option Addr) (n c : Nat) (f : Nat → Nat) (i : Int) (w : World) (h0 : (n : Int) ≤ i) (hi : i ≤ 1000002) :
    Calls Tryz.prog 86 #[.slice A n c, .int .i64 i] w fun e w' => e = .returned (.int .u32 ((ext f n i.toNat : Nat) : Int)) ∧ w = w' := by
  obtain ⟨k, rfl⟩ := Int.eq_ofNat_of_zero_le (show 0 ≤ i by omega)
  have hk : ¬ k < n := by omega
  have he : ext f n (k : Int).toNat = 0 := by simp [ext, hk]
  rw [he]
  clear he
  go_enter Tryz.func86, Tryz.ntmps86
  go_wp2
  go_ret
  exact ⟨rfl, rfl⟩

theorem at_any (A : Option Addr) (n c : Nat) (f : Nat → Nat) (i : Int) (w : World) (h0 : 0 ≤ i) (hi : i ≤ 1000002) (hn : n ≤ 1000000) (h : Dg w A n f) :
    Calls Tryz.prog 86 #[.slice A n c, .int .i64 i] w fun e w' => e = .returned (.int .u32 ((ext f n i.toNat : Nat) : Int)) ∧ w = w' := by
  by_cases hk : i < n
  · exact at_in A n c f i w h0 hk hn h
  · exact at_out A n c f i w (by omega) hi

/-- cmp.Compare at int. -/
def cmpI (x y : Int) : Int := if x < y then -1 else if y < x then 1 else 0
theorem cmp_int (x y : Int) (w : World) : Calls Tryz.prog 87 #[.int .i64 x, .int .i64 y] w fun e w' => e = .returned (.int .i64 (cmpI x y)) ∧ w = w' := by
  rcases Int.lt_trichotomy x y with h | h | h
  · have e : cmpI x y = -1 := by simp [cmpI, h]
    rw [e]; clear e
    go_enter Tryz.func87, Tryz.ntmps87
    go_wp2
    go_ret
    exact ⟨rfl, rfl⟩
  · subst h
    have e : cmpI x x = 0 := by simp [cmpI]
    rw [e]; clear e
    go_enter Tryz.func87, Tryz.ntmps87
    go_wp2
    go_ret
    exact ⟨rfl, rfl⟩
  · have e : cmpI x y = 1 := by unfold cmpI; rw [if_neg (by omega), if_pos h]
    have h' : ¬ x < y := by omega
    rw [e]; clear e
    go_enter Tryz.func87, Tryz.ntmps87
    go_wp2
    go_ret
    exact ⟨rfl, rfl⟩

theorem cmp_u32 (x y : Int) (w : World) : Calls Tryz.prog 88 #[.int .u32 x, .int .u32 y] w fun e w' => e = .returned (.int .i64 (cmpI x y)) ∧ w = w' := by
  rcases Int.lt_trichotomy x y with h | h | h
  · have e : cmpI x y = -1 := by simp [cmpI, h]
    rw [e]; clear e
    go_enter Tryz.func88, Tryz.ntmps88
    go_wp2
    go_ret
    exact ⟨rfl, rfl⟩
  · subst h
    have e : cmpI x x = 0 := by simp [cmpI]
    rw [e]; clear e
    go_enter Tryz.func88, Tryz.ntmps88
    go_wp2
    go_ret
    exact ⟨rfl, rfl⟩
  · have e : cmpI x y = 1 := by unfold cmpI; rw [if_neg (by omega), if_pos h]
    have h' : ¬ x < y := by omega
    rw [e]; clear e
    go_enter Tryz.func88, Tryz.ntmps88
    go_wp2
    go_ret
    exact ⟨rfl, rfl⟩

theorem ext_lt {f : Nat → Nat} {n : Nat} (h : ∀ i, i < n → f i < W) (k : Nat) : ext f n k < 4294967296 := by
  unfold ext
  split
  · exact h k ‹_›
  · decide

theorem ext_in {f : Nat → Nat} {n k : Nat} (h : k < n) : ext f n k = f k := by simp [ext, h]
theorem ext_out {f : Nat → Nat} {n k : Nat} (h : n ≤ k) : ext f n k = 0 := by unfold ext; rw [if_neg (by omega)]

theorem V_ext {f : Nat → Nat} {n N : Nat} (h : n ≤ N) : V (ext f n) N = V f n := by
  rw [V_tail h fun i h1 _ => ext_out h1]
  exact V_congr fun i hi => ext_in hi

/-- What a function that makes a number returns. -/
def RetD (x : Nat) (w : World) (e : Ending) (w' : World) : Prop := ∃ v, e = .returned v ∧ D w' v x ∧ Below w.heap.size w w'

/-- Block g is a row of n digits. -/
def Row (w : World) (g n : Nat) (f : Nat → Nat) : Prop := w.rowIs g 80 n (fun j => .int .u32 ((f j : Nat) : Int))

theorem Row.cell {w : World} {g n : Nat} {f : Nat → Nat} (h : Row w g n f) {i : Nat} (hi : i < n) : w.cell? ⟨g, i, none⟩ = some (.int .u32 ((f i : Nat) : Int)) := World.rowIs.cell h hi
theorem Row.frozen {w : World} {g n : Nat} {f : Nat → Nat} (h : Row w g n f) (i : Nat) : w.frozen? ⟨g, i, none⟩ = false := World.rowIs.frozen h i
theorem Row.lt {w : World} {g n : Nat} {f : Nat → Nat} (h : Row w g n f) : g < w.heap.size := World.rowIs.lt h
theorem Row.set {w : World} {g n : Nat} {f : Nat → Nat} (h : Row w g n f) (i x : Nat) : Row (w.setCell ⟨g, i, none⟩ (.int .u32 (x : Int))) g n (up f i x) := by
  refine World.rowIs.congr (World.rowIs.set h i _) fun j _ => ?_
  unfold up
  split <;> rfl
theorem Row.drewN {w : World} {g n : Nat} {f : Nat → Nat} (h : Row w g n f) (k : Nat) : Row (w.drewN k) g n f := h
theorem Row.drew {w : World} {g n : Nat} {f : Nat → Nat} (h : Row w g n f) : Row w.drew g n f := h
theorem Row.new (w : World) (n : Nat) : Row (w.alloc (.cells (madeCells #[.int .u32 0] n) 80)) w.heap.size n (fun _ => 0) := World.rowIs_made w _ n 80
theorem Row.dg {w : World} {g n c : Nat} {f : Nat → Nat} (h : Row w g c f) (hn : n ≤ c) : Dg w (some ⟨g, 0, none⟩) n f :=
  fun _ => ⟨g, 0, rfl, h.lt, fun i hi => by rw [Nat.zero_add]; exact h.cell (by omega)⟩
theorem Row.tt {w : World} {g n : Nat} {f : Nat → Nat} (h : Row w g n f) (k : Nat) : TT w (some ⟨g, 0, none⟩) k := fun _ => by
  obtain ⟨cs, hc, _⟩ := h
  exact ⟨g, 0, rfl, cs, _, hc⟩
theorem Row.block {w w' : World} {g n : Nat} {f : Nat → Nat} (h : Row w g n f) (e : w'.heap[g]? = w.heap[g]?) : Row w' g n f := World.rowIs.of_block h e
theorem Row.keep {w w' : World} {g n : Nat} {f : Nat → Nat} (h : Row w g n f) (hb : Below w.heap.size w w') : Row w' g n f := h.block (hb.block g h.lt)
theorem Dg.drewN {w : World} {A : Option Addr} {n : Nat} {f : Nat → Nat} (h : Dg w A n f) (k : Nat) : Dg (w.drewN k) A n f := h
theorem Dg.drew {w : World} {A : Option Addr} {n : Nat} {f : Nat → Nat} (h : Dg w A n f) : Dg w.drew A n f := h

theorem info98 : (Tryz.prog.info? 80).map (fun i => (i.zero, i.size, i.bytes)) = some (some (.int .u32 0), 1, 4) := by kernel_rfl
theorem make_row (n : Nat) (h : n ≤ 4000000) (w : World) :
    (Instr.makeSlice 36 (.int .i64 (n : Int)) (.int .i64 (n : Int))).run Tryz.prog w = .ok (.slice (some ⟨w.heap.size, 0, none⟩) n n) (w.alloc (.cells (madeCells #[.int .u32 0] n) 80)) :=
  run_make_row' (P := Tryz.prog) 36 80 (.int .u32 0) 4 Tryz.underlying36 info98 rfl .i64 .i64 n (by omega) (by omega) w

theorem top32 (z : Nat) (h : z < 4294967296) : z / 2147483648 = (z.testBit 31).toNat := by
  rw [Nat.testBit_eq_decide_div_mod_eq]
  have e : (2:Nat)^31 = 2147483648 := by decide
  rw [e]
  by_cases g : z / 2147483648 % 2 = 1 <;> simp [g] <;> omega

theorem top32b (z : Nat) (h : z < 4294967296) : z.testBit 31 = decide (2147483648 ≤ z) := by
  have := top32 z h
  by_cases g : 2147483648 ≤ z
  · have e : z / 2147483648 = 1 := by omega
    rw [e] at this
    cases hb : z.testBit 31 <;> simp_all
  · have e : z / 2147483648 = 0 := by omega
    rw [e] at this
    cases hb : z.testBit 31 <;> simp_all

theorem sub32_nat (x y b d : Nat) (hx : x < 4294967296) (hy : y < 4294967296) (hb : b ≤ 1) (hd : (d : Int) = ((x : Int) - y - b) % 4294967296) :
    (((4294967295 ^^^ x) &&& y) ||| ((4294967295 ^^^ (x ^^^ y)) &&& d)) / 2147483648 = if x < y + b then 1 else 0 := by
  have hd2 : d < 4294967296 := by omega
  have b1 : (4294967295 ^^^ x) &&& y < 4294967296 := Nat.lt_of_le_of_lt Nat.and_le_right hy
  have b2 : (4294967295 ^^^ (x ^^^ y)) &&& d < 4294967296 := Nat.lt_of_le_of_lt Nat.and_le_right hd2
  have hz : ((4294967295 ^^^ x) &&& y) ||| ((4294967295 ^^^ (x ^^^ y)) &&& d) < 4294967296 := Nat.or_lt_two_pow (n := 32) b1 b2
  have e1 : Nat.testBit 4294967295 31 = true := by decide
  rw [top32 _ hz, Nat.testBit_or, Nat.testBit_and, Nat.testBit_and, Nat.testBit_xor, Nat.testBit_xor, Nat.testBit_xor, e1, top32b x hx, top32b y hy, top32b d hd2]
  by_cases g1 : 2147483648 ≤ x <;> by_cases g2 : 2147483648 ≤ y <;> by_cases g3 : 2147483648 ≤ d <;> by_cases g4 : x < y + b <;> simp [g1, g2, g3, g4] <;> omega

theorem sub32_bits (x y b : Int) (h1 : 0 ≤ x) (h2 : x < 4294967296) (h3 : 0 ≤ y) (h4 : y < 4294967296) (h5 : 0 ≤ b) (h6 : b ≤ 1) :
    bits BinOp.or IntKind.u32 (bits BinOp.and IntKind.u32 (bits BinOp.xor IntKind.u32 IntKind.u32.max x) y)
      (bits BinOp.and IntKind.u32 (bits BinOp.xor IntKind.u32 IntKind.u32.max (bits BinOp.xor IntKind.u32 x y)) ((x - y - b) % 4294967296)) / 2147483648 = if x < y + b then 1 else 0 := by
  obtain ⟨x, rfl⟩ := Int.eq_ofNat_of_zero_le h1
  obtain ⟨y, rfl⟩ := Int.eq_ofNat_of_zero_le h3
  obtain ⟨b, rfl⟩ := Int.eq_ofNat_of_zero_le h5
  obtain ⟨d, hd⟩ := Int.eq_ofNat_of_zero_le (show 0 ≤ ((x : Int) - y - b) % 4294967296 by omega)
  have hx : x < 4294967296 := by omega
  have hy : y < 4294967296 := by omega
  have hd2 : d < 4294967296 := by omega
  have em : IntKind.u32.max = ((4294967295 : Nat) : Int) := rfl
  have k1 : 4294967295 ^^^ x < 4294967296 := Nat.xor_lt_two_pow (n := 32) (by decide) hx
  have k2 : x ^^^ y < 4294967296 := Nat.xor_lt_two_pow (n := 32) hx hy
  have k3 : 4294967295 ^^^ (x ^^^ y) < 4294967296 := Nat.xor_lt_two_pow (n := 32) (by decide) k2
  have b1 : (4294967295 ^^^ x) &&& y < 4294967296 := Nat.lt_of_le_of_lt Nat.and_le_right hy
  have b2 : (4294967295 ^^^ (x ^^^ y)) &&& d < 4294967296 := Nat.lt_of_le_of_lt Nat.and_le_right hd2
  rw [hd, em, u32_xor_nat _ _ (by decide) hx, u32_xor_nat x y hx hy, u32_xor_nat _ _ (by decide) k2, u32_and_nat _ _ k1 hy, u32_and_nat _ _ k3 hd2, u32_or_nat _ _ b1 b2]
  have := sub32_nat x y b d hx hy (by omega) hd.symm
  have e2 : (if (x : Int) < y + b then (1 : Int) else 0) = ((if x < y + b then 1 else 0 : Nat) : Int) := by split <;> split <;> omega
  rw [e2, ← this]
  omega

/-- The borrow. -/
def bor (x y : Int) : Int := if x < y then 1 else 0
theorem bor_01 (x y : Int) : 0 ≤ bor x y ∧ bor x y ≤ 1 := by unfold bor; split <;> omega

theorem sub32_any (x y b : Int) (w : World) (h1 : 0 ≤ x) (h2 : x < 4294967296) (h3 : 0 ≤ y) (h4 : y < 4294967296) (h5 : 0 ≤ b) (h6 : b ≤ 1) :
    Calls Tryz.prog 89 #[.int .u32 x, .int .u32 y, .int .u32 b] w fun e w' => e = .returned (.tuple #[.int .u32 ((x - y - b) % 4294967296), .int .u32 (bor x (y + b))]) ∧ w = w' := by
  have H := Lib.hid (sub32_bits x y b h1 h2 h3 h4 h5 h6)
  go_enter Tryz.func89, Tryz.ntmps89
  go_wp2_with fail
  go_ret2
  refine ⟨?_, rfl⟩
  simp only [bor, ← H.out]
  rfl

end Go.Proofs.YtjoanclnaeephaaGreat
