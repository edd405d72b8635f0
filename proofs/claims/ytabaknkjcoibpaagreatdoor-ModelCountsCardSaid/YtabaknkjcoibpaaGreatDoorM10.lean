/- Ints as integers of the reference in memory. Windows of bits of long numbers, as plain facts. Lehmer's combination of two long numbers in memory. -/
import Derived.Test.YtabaknkjcoibpaaGreatDoorM09
import Derived.Test.YtabaknkjcoibpaaGreatDoorM05

namespace Go.Proofs.YtabaknkjcoibpaaGreatDoor
open Go.RowKit

theorem Own.lit (w : World) {B : Nat} (hB : B ≤ w.heap.size) {X : Int} {d : Nat} (hX : X = (d : Int)) : Own (w.alloc (.cells #[.int .i64 X] 3)) B (.slice (some ⟨w.heap.size, 0, none⟩) 1 1) [d] := by
  subst hX
  exact ⟨rfl, Or.inr ⟨w.heap.size, 1, #[.int .i64 (d : Int)], rfl, hB, heap_alloc_new w _, Nat.le_refl _, by unfold maxLen; omega, rfl, rfl⟩⟩

/-- The same for a negative int. -/
def LstN (B : Nat) (w : World) (z : Nat) (m o : Value) (wr : World) : Prop :=
  ∃ (M : Int) (r : Nat) (l : List Nat), m = .int .i64 M ∧ Hid (M = -(r : Int)) ∧ Own wr B o l ∧ Dl l ∧ (r = 0 → Nz l) ∧ l.length ≤ 3 ∧ val l + Bs ^ l.length * r = z ∧ Below B w wr
theorem LstN.of {B : Nat} {w w' : World} {z r : Nat} {o m m' : Value} (h : LstR B w z o m' w') (h' : m' = .int .i64 (r : Int)) {M : Int} (hm : m = .int .i64 M) (hM : M = -(r : Int)) : LstN B w z m o w' := by
  obtain ⟨r', l, h1, h2⟩ := h
  rw [h'] at h1
  injection h1 with _ h1
  have : r = r' := by omega
  subst this
  exact ⟨M, r, l, hm, hM, h2⟩

theorem RI.list {w : World} {A : Option Addr} {n c : Nat} {l : List Nat} {z : Int} {v : Value} {B : Nat} (hown : Own w B v l) (hv : v = .slice A n c) (hd : Dl l) (hz : Nz l) (hval : val l = z.natAbs) (he : Edge ≤ z.natAbs) : RI w 0 (decide (z < 0)) A n c z := by
  obtain ⟨A', c', e, h1, h2, h3⟩ := hown.ls hd
  rw [hv] at e
  injection e with e1 e2 e3
  subst e1 e2 e3
  refine ⟨l, rfl, h1, hd, h3, Or.inr ⟨?_, rfl, rfl, hz, hval, he⟩⟩
  rcases List.eq_nil_or_concat l with h | ⟨_, _, h⟩
  · rw [h, val_nil] at hval; rw [← hval, Edge_eq] at he; omega
  · rw [h]; simp

theorem rof_small (n : Int) (w : World) (h : n.natAbs < Edge) : Calls Tryz.prog 70 #[.int .i64 n] w (RetI n w) := by
  rw [Edge_eq] at h
  have HR : Hid (∀ wx, Below w.heap.size w wx → RetI n w (.returned (.agg #[.int .i64 n, .bool false, .slice none 0 0])) wx) := fun wx hb => retI (RI.small wx (by rw [Edge_eq]; exact h) none 0 (Nat.zero_le _)) hb
  have h1 : decide (-2305843009213693952 < n) = true := decide_eq_true (by omega)
  have h2 : decide (n < 2305843009213693952) = true := decide_eq_true (by omega)
  clear h
  go_enter Tryz.func70, Tryz.ntmps70
  go_wp2_with fail
  exact bodyPost_ret (v := .agg #[.int .i64 n, .bool false, .slice none 0 0]) (by simp [results, Tryz.results70, go_sem]) rfl (HR.out _ (below_alloc w _))

set_option maxRecDepth 100000 in
set_option maxHeartbeats 4000000 in
theorem rof_pos (x : Nat) (w : World) (h1 : Edge ≤ x) (h2 : x ≤ 9223372036854775807) : Calls Tryz.prog 70 #[.int .i64 (x : Int)] w (RetI (x : Int) w) := by
  have HE := Lib.hid h1
  rw [Edge_eq] at h1
  have g1 : decide (-2305843009213693952 < (x : Int)) = true := decide_eq_true (by omega)
  have g2 : decide ((x : Int) < 2305843009213693952) = false := decide_eq_false (by omega)
  have gs : decide ((x : Int) < 0) = false := decide_eq_false (by omega)
  have HZZ : Hid (x < Bs ^ 3) := by
    show x < Bs ^ 3
    rw [Bs_eq]; omega
  have hmx : max ((x : Int) % 1073741824) (-((x : Int) % 1073741824)) = ((x % 1073741824 : Nat) : Int) := by omega
  have H2 := Lib.hid h2
  clear h1 
  go_enter Tryz.func70, Tryz.ntmps70
  go_upto_region 3 with fail
  generalize hX : w.alloc _ = X
  have HX : Hid (Below w.heap.size w X ∧ W3 w.heap.size X ∧ w.heap.size ≤ X.heap.size) := by
    subst hX
    exact ⟨below_alloc w _, W3.new w _ _ _ rfl, by simp⟩
  clear hX
  have hXs := HX.out.2.2
  go_wp2_with fail
  go_loopw [4, 5] (fun m o wr => LstR X.heap.size X x o m wr) (fun m _ _ => (intOf m).natAbs)
  case atStart => exact ⟨x / Bs, [x % Bs], rfl, Own.lit X (Nat.le_refl _) rfl, Dl.nil.snoc (Nat.mod_lt _ Bs_pos), fun h => absurd h (by rw [Bs_eq]; have := HE.out; rw [Edge_eq] at this; omega), by simp, by rw [val_one]; simp only [List.length_singleton, Nat.pow_one]; exact Nat.mod_add_div x Bs, below_alloc X _⟩
  case round =>
    obtain ⟨r, l, rfl, hown, hd, hnz, hl, hv, hbel⟩ := hrel
    have hrx : r ≤ x := by
      have : 1 * r ≤ Bs ^ l.length * r := Nat.mul_le_mul_right _ (Bs_pow_pos _)
      omega
    have hll : l.length ≤ 1000000 := by omega
    have hsz := hbel.size
    have HBL := Lib.hid hbel
    have HV := Lib.hid hv
    have HD := Lib.hid hd
    have HNZ := Lib.hid hnz
    clear hbel hv hd hnz hmx 
    rcases Nat.eq_zero_or_pos r with h0 | h0
    · subst h0
      skip
      obtain ⟨A', c', rfl, hlc, hd', hLc⟩ := hown.ls HD.out
      have hval : val l = x := by have := HV.out; rw [Nat.mul_zero] at this; omega
      have hln : 0 < l.length := by
        rcases List.eq_nil_or_concat l with h | ⟨_, _, h⟩
        · have h5 := HE.out
          rw [h, val_nil] at hval
          rw [← hval, Edge_eq] at h5
          omega
        · rw [h]; simp
      have HRI : Hid (RI wr 0 false A' l.length c' (x : Int)) := ⟨l, rfl, hlc, hd', hLc, Or.inr ⟨hln, rfl, gs.symm, HNZ.out (by trivial), by rw [hval]; omega, by have h5 := HE.out; omega⟩⟩
      have HTB := Lib.hid (HX.out.1.trans (HBL.out.mono hXs))
      obtain ⟨⟨p1, p2, p3, p4, p5, p6⟩, p7, p8, p9, p10⟩ := HX.out.2.1.keep HBL.out
      have HP10 := Lib.hid p10
      have HLN := Lib.hid hln
      clear p10 hlc hd' hLc hval hln
      go_wp2_with fail
      exact bodyPost_ret (v := .agg #[.int .i64 0, .bool false, .slice A' l.length c']) (by simp [results, Tryz.results70, go_sem, *]) rfl (retI_box HRI.out HP10.out HTB.out (Nat.le_refl _))
    · skip
      have hmr : max ((r : Int) % 1073741824) (-((r : Int) % 1073741824)) = ((r % 1073741824 : Nat) : Int) := by omega
      have hne : ((r : Int) != 0) = true := by rw [bne_iff_ne]; omega
      go_wp2_with (at_builtin; refine wpList_push rfl _ _ rfl X.heap.size _ l rfl (hown.alloc _) wr.heap.size rfl _ (cell_new _ _ _) (r % Bs) (by first | rfl | (rw [Bs_eq]; first | rfl | omega)) hll (by simp; omega) (fun v' w' hown' hkeep => ?_))
      have HO := Lib.hid hown'
      have HKp := Lib.hid (hkeep X (HBL.out.alloc hsz _))
      clear hown' hkeep
      go_wp2_with fail
      go_roundw
      case rel => exact LstR.next HZZ.out HD.out h0 HV.out HKp.out HO.out rfl (by rw [Bs_eq]; omega)
      case measure => simp [intOf]; omega

set_option maxRecDepth 100000 in
set_option maxHeartbeats 4000000 in
theorem rof_neg (x : Nat) (N : Int) (hN : N = -(x : Int)) (w : World) (h1 : Edge ≤ x) (h2 : x ≤ 9223372036854775808) : Calls Tryz.prog 70 #[.int .i64 N] w (RetI N w) := by
  have HE := Lib.hid h1
  have HN := Lib.hid hN
  rw [Edge_eq] at h1
  have g1 : decide (-2305843009213693952 < N) = false := decide_eq_false (by omega)
  have g2 : decide (N < 2305843009213693952) = true := decide_eq_true (by omega)
  have gs : decide (N < 0) = true := decide_eq_true (by omega)
  have HZZ : Hid (x < Bs ^ 3) := by
    show x < Bs ^ 3
    rw [Bs_eq]; omega
  obtain ⟨p, hp⟩ : ∃ p, x % 1073741824 = p := ⟨_, rfl⟩
  obtain ⟨q, hq⟩ : ∃ q, x / 1073741824 = q := ⟨_, rfl⟩
  have hp1 : p < 1073741824 := by omega
  have hq1 : q ≤ 8589934592 := by omega
  have e1 : N.tmod 1073741824 = -(p : Int) := by rw [hN, Int.neg_tmod, ← hp]; rfl
  have e2 : N.tdiv 1073741824 = -(q : Int) := by rw [hN, Int.neg_tdiv, ← hq]; rfl
  have HP := Lib.hid hp
  have HQ := Lib.hid hq
  clear hp hq
  have hmx : max (-(p : Int)) (p : Int) = (p : Int) := by omega
  have H2 := Lib.hid h2
  clear h1 h2 hN
  go_enter Tryz.func70, Tryz.ntmps70
  go_upto_region 3 with fail
  generalize hX : w.alloc _ = X
  have HX : Hid (Below w.heap.size w X ∧ W3 w.heap.size X ∧ w.heap.size ≤ X.heap.size) := by
    subst hX
    exact ⟨below_alloc w _, W3.new w _ _ _ rfl, by simp⟩
  clear hX
  have hXs := HX.out.2.2
  go_wp2_with fail
  go_loopw [4, 5] (fun m o wr => LstN X.heap.size X x m o wr) (fun m _ _ => (intOf m).natAbs)
  case atStart => exact ⟨-(q : Int), q, [p], rfl, rfl, Own.lit X (Nat.le_refl _) rfl, Dl.nil.snoc (by rw [Bs_eq]; exact hp1), fun h => absurd h (by have := HE.out; have h7 := HQ.out; rw [Edge_eq] at this; omega), by simp, by rw [val_one]; simp only [List.length_singleton, Nat.pow_one]; have h7 := HP.out; have h8 := HQ.out; rw [Bs_eq]; omega, below_alloc X _⟩
  case round =>
    obtain ⟨M, r, l, rfl, hM, hown, hd, hnz, hl, hv, hbel⟩ := hrel
    have hrx : r ≤ x := by
      have : 1 * r ≤ Bs ^ l.length * r := Nat.mul_le_mul_right _ (Bs_pow_pos _)
      omega
    have hll : l.length ≤ 1000000 := by omega
    have hsz := hbel.size
    have HBL := Lib.hid hbel
    have HV := Lib.hid hv
    have HD := Lib.hid hd
    have HNZ := Lib.hid hnz
    clear hbel hv hd hnz hmx e1 e2 hp1 hq1 HP HQ
    rcases Nat.eq_zero_or_pos r with h0 | h0
    · subst h0
      have hM0 : M = 0 := by have := hM.out; omega
      subst hM0
      obtain ⟨A', c', rfl, hlc, hd', hLc⟩ := hown.ls HD.out
      have hval : val l = x := by have := HV.out; rw [Nat.mul_zero] at this; omega
      have hln : 0 < l.length := by
        rcases List.eq_nil_or_concat l with h | ⟨_, _, h⟩
        · have h5 := HE.out
          rw [h, val_nil] at hval
          rw [← hval, Edge_eq] at h5
          omega
        · rw [h]; simp
      have HRI : Hid (RI wr 0 true A' l.length c' N) := ⟨l, rfl, hlc, hd', hLc, Or.inr ⟨hln, rfl, gs.symm, HNZ.out (by trivial), by rw [hval]; have h6 := HN.out; omega, by have h5 := HE.out; have h6 := HN.out; omega⟩⟩
      have HTB := Lib.hid (HX.out.1.trans (HBL.out.mono hXs))
      obtain ⟨⟨p1, p2, p3, p4, p5, p6⟩, p7, p8, p9, p10⟩ := HX.out.2.1.keep HBL.out
      have HP10 := Lib.hid p10
      have HLN := Lib.hid hln
      clear p10 hlc hd' hLc hval hln
      go_wp2_with fail
      exact bodyPost_ret (v := .agg #[.int .i64 0, .bool true, .slice A' l.length c']) (by simp [results, Tryz.results70, go_sem, *]) rfl (retI_box HRI.out HP10.out HTB.out (Nat.le_refl _))
    · skip
      obtain ⟨p, hp⟩ : ∃ p, r % 1073741824 = p := ⟨_, rfl⟩
      obtain ⟨q, hq⟩ : ∃ q, r / 1073741824 = q := ⟨_, rfl⟩
      have hp1 : p < 1073741824 := by omega
      have hq1 : q ≤ 8589934592 := by have := H2.out; omega
      have e1 : M.tmod 1073741824 = -(p : Int) := by rw [hM.out, Int.neg_tmod, ← hp]; rfl
      have e2 : M.tdiv 1073741824 = -(q : Int) := by rw [hM.out, Int.neg_tdiv, ← hq]; rfl
      have HP := Lib.hid hp
      have HQ := Lib.hid hq
      clear hp hq
      have hmr : max (-(p : Int)) (p : Int) = (p : Int) := by omega
      have hne : (M != 0) = true := by have := hM.out; rw [bne_iff_ne]; omega
      go_wp2_with (at_builtin; refine wpList_push rfl _ _ rfl X.heap.size _ l rfl (hown.alloc _) wr.heap.size rfl _ (cell_new _ _ _) (p) (by first | rfl | (rw [Bs_eq]; first | rfl | omega)) hll (by simp; omega) (fun v' w' hown' hkeep => ?_))
      have HO := Lib.hid hown'
      have HKp := Lib.hid (hkeep X (HBL.out.alloc hsz _))
      clear hown' hkeep
      go_wp2_with fail
      go_roundw
      case rel => exact LstN.of (r := q) (LstR.next HZZ.out HD.out h0 HV.out HKp.out (by have h7 := HP.out; rw [Bs_eq, h7]; exact HO.out) rfl (by have h7 := HQ.out; rw [Bs_eq, h7])) rfl rfl rfl
      case measure => have h7 := HQ.out; have h8 := hM.out; simp [intOf]; omega

end Go.Proofs.YtabaknkjcoibpaaGreatDoor

namespace Go.Proofs.YtabaknkjcoibpaaGreatDoor
open Go.RowKit

/-- Three digits from position i on, where what follows is 0. -/
theorem V_three {f : Nat → Nat} {n i : Nat} (hf : ∀ j, j < n → f j < W) (h : V f n / W ^ i < W ^ 3) :
    V f n / W ^ i = ext f n i + W * ext f n (i + 1) + W * W * ext f n (i + 2) := by
  have dig : ∀ j, V f n / W ^ j % W = ext f n j := fun j => by
    by_cases g : j < n
    · rw [ext_in g]; exact V_digit hf g
    · rw [ext_out (by omega), Nat.div_eq_of_lt (Nat.lt_of_lt_of_le (V_lt hf) (pow_le (by omega))), Nat.zero_mod]
  have s1 : ∀ j, V f n / W ^ (j + 1) = V f n / W ^ j / W := fun j => by rw [pow_succ', Nat.div_div_eq_div_mul]
  have e0 := dig i
  have e1 := dig (i + 1)
  have e2 := dig (i + 2)
  have t1 := s1 i
  have t2 := s1 (i + 1)
  have e : i + 1 + 1 = i + 2 := rfl
  rw [e] at t2
  rw [t2, t1] at e2
  rw [t1] at e1
  have hW3 : W ^ 3 = W * W * W := by rw [Nat.pow_succ, Nat.pow_succ, Nat.pow_one]
  rw [hW3] at h
  generalize V f n / W ^ i = X at *
  rw [W_eq] at *
  omega

/-- The leading bits of a number. -/
theorem window_val {l hi X s : Nat} (hs : s < 32) (hl : l < 18446744073709551616) (hh : hi < 4294967296) (hX : X = (l + 18446744073709551616 * hi) / 2 ^ s) (hlt : X < 1152921504606846976) :
    bits BinOp.or IntKind.u64 ((l : Int) / 2 ^ s) (IntKind.u64.wrap ((hi : Int) * 2 ^ (64 - s))) = (X : Int) ∧ (s = 0 → hi = 0) := by
  obtain ⟨p, hp⟩ : ∃ p, p = 2 ^ s := ⟨_, rfl⟩
  obtain ⟨r, hr⟩ : ∃ r, r = 2 ^ (64 - s) := ⟨_, rfl⟩
  have hpr : p * r = 18446744073709551616 := by rw [hp, hr, ← Nat.pow_add, show s + (64 - s) = 64 from by omega]
  have hp0 : 0 < p := by rw [hp]; exact two_pow_pos s
  have hr0 : 0 < r := by rw [hr]; exact two_pow_pos _
  have eX : X = l / p + r * hi := by
    rw [hX, ← hp, ← hpr, Nat.mul_assoc, Nat.add_mul_div_left _ _ hp0]
  have hrh : r * hi < 1152921504606846976 := Nat.lt_of_le_of_lt (by rw [eX]; exact Nat.le_add_left _ _) hlt
  have hlp : l / p < r := by
    rw [Nat.div_lt_iff_lt_mul hp0, Nat.mul_comm]
    omega
  constructor
  · rw [← two_pow_cast, ← two_pow_cast, ← hp, ← hr, ← Int.natCast_mul, ← Int.natCast_ediv, IntKind.wrap_u64]
    have e2 : ((hi * r : Nat) : Int) % 18446744073709551616 = ((hi * r : Nat) : Int) := by
      rw [Nat.mul_comm] at hrh
      omega
    rw [e2, u64_or_nat _ _ (by omega) (by rw [Nat.mul_comm]; omega), Nat.or_comm, nat_join (64 - s) (hi * r) (l / p) (by rw [← hr]; exact Nat.mul_mod_left _ _) (by rw [← hr]; exact hlp)]
    rw [eX, Nat.mul_comm hi r, Nat.add_comm]
  · intro h0
    subst h0
    have : r = 18446744073709551616 := hr
    rw [this] at hrh
    omega

end Go.Proofs.YtabaknkjcoibpaaGreatDoor

namespace Go.Proofs.YtabaknkjcoibpaaGreatDoor
open Go.RowKit

/-- What has been combined after k digits. -/
def CombRel (w : World) (n m : Nat) (f g : Nat → Nat) (X Y : Int) (carry i : Value) (wr : World) : Prop :=
  ∃ (k : Nat) (c : Int) (h : Nat → Nat), k ≤ n ∧ i = .int .i64 (k : Int) ∧ carry = .int .i64 c ∧ -2147483648 ≤ c ∧ c < 2147483648 ∧ (∀ j, j < k → h j < W) ∧
    ((V h k : Nat) : Int) + c * ((W ^ k : Nat) : Int) = X * ((V f k : Nat) : Int) + Y * ((V (ext g m) k : Nat) : Int) ∧ Row wr w.heap.size n h ∧ Below w.heap.size w wr

theorem combrel_start (w : World) (n m : Nat) (f g : Nat → Nat) (X Y : Int) : CombRel w n m f g X Y (.int .i64 0) (.int .i64 0) (w.alloc (.cells (madeCells #[.int .u32 0] n) 193)) :=
  ⟨0, 0, fun _ => 0, Nat.zero_le _, rfl, rfl, by omega, by omega, fun j hj => by omega, by simp [V_zero], Row.new w n, (Below.refl _ _).alloc (Nat.le_refl _) _⟩

theorem prod_up {X : Int} {d : Nat} (h0 : 0 ≤ X) (h1 : X < 2147483648) (hd : d < 4294967296) : 0 ≤ X * (d : Int) ∧ X * (d : Int) ≤ 9223372030412324865 := by
  obtain ⟨x, rfl⟩ := Int.eq_ofNat_of_zero_le h0
  have h : x * d ≤ 2147483647 * 4294967295 := Nat.mul_le_mul (by omega) (by omega)
  have e : ((x * d : Nat) : Int) = (x : Int) * (d : Int) := Int.natCast_mul _ _
  omega
theorem prod_dn {X : Int} {d : Nat} (h0 : X ≤ 0) (h1 : -2147483648 < X) (hd : d < 4294967296) : X * (d : Int) ≤ 0 ∧ -9223372030412324865 ≤ X * (d : Int) := by
  have := prod_up (X := -X) (by omega) (by omega) hd
  rw [Int.neg_mul] at this
  omega

/-- The signs and sizes of the two factors. -/
def CombOk (X Y : Int) : Prop := -2147483648 < X ∧ X < 2147483648 ∧ -2147483648 < Y ∧ Y < 2147483648 ∧ ((0 ≤ X ∧ Y ≤ 0) ∨ (X ≤ 0 ∧ 0 ≤ Y))

theorem CombOk.bounds {X Y : Int} (h : CombOk X Y) {d e : Nat} (hd : d < 4294967296) (he : e < 4294967296) :
    -9223372030412324865 ≤ X * (d : Int) ∧ X * (d : Int) ≤ 9223372030412324865 ∧ -9223372030412324865 ≤ Y * (e : Int) ∧ Y * (e : Int) ≤ 9223372030412324865 ∧
      -9223372030412324865 ≤ X * (d : Int) + Y * (e : Int) ∧ X * (d : Int) + Y * (e : Int) ≤ 9223372030412324865 := by
  obtain ⟨h1, h2, h3, h4, h5⟩ := h
  rcases h5 with ⟨a, b⟩ | ⟨a, b⟩
  · have p := prod_up a h2 hd
    have q := prod_dn b h3 he
    omega
  · have p := prod_dn a h1 hd
    have q := prod_up b h4 he
    omega

theorem combrel_step {w wr wd : World} {n m k : Nat} {f g h : Nat → Nat} {X Y c : Int} (hk : k < n) (hc0 : -2147483648 ≤ c) (hc1 : c < 2147483648) (hok : CombOk X Y) (hf : f k < 4294967296) (hg : ext g m k < 4294967296) (hh : ∀ j, j < k → h j < W)
    (hv : ((V h k : Nat) : Int) + c * ((W ^ k : Nat) : Int) = X * ((V f k : Nat) : Int) + Y * ((V (ext g m) k : Nat) : Int)) (hrow : Row wr w.heap.size n h) (hbel : Below w.heap.size w wr) {q : Nat} {a s : Int} {i v : Value}
    (hs : s = X * ((f k : Nat) : Int) + Y * ((ext g m k : Nat) : Int) + c) (ha : a = (k : Int) + 1) (hi : i = .int .i64 a)
    (hw : wd = (wr.drewN q).setCell ⟨w.heap.size, k, none⟩ (.int .u32 (s % 4294967296))) (hb : v = .int .i64 (s / 4294967296)) :
    CombRel w n m f g X Y v i wd := by
  subst ha hi hw hb
  have hbd := hok.bounds hf hg
  obtain ⟨r, hr⟩ := Int.eq_ofNat_of_zero_le (show 0 ≤ s % 4294967296 by omega)
  have hrW : r < W := by rw [W_eq]; omega
  have hsp : s = 4294967296 * (s / 4294967296) + r := by omega
  rw [hr]
  have hrow' : Row (wr.drewN q) w.heap.size n h := hrow.drewN q
  have hbel' : Below w.heap.size w (wr.drewN q) := ⟨hbel.os, hbel.tape, hbel.output, hbel.size, hbel.block⟩
  refine ⟨k + 1, s / 4294967296, up h k r, by omega, by rw [show ((k + 1 : Nat) : Int) = (k : Int) + 1 from by omega], rfl, by omega, by omega, ?_, ?_, hrow'.set k _, hbel'.setCell (Nat.le_refl _) _⟩
  · intro j hj
    by_cases e : j = k
    · rw [e, up_at]; exact hrW
    · rw [up_far h _ e]; exact hh j (by omega)
  · rw [V_succ, V_succ, V_succ, up_at, V_up_below h _ (Nat.le_refl k), pow_succ']
    simp only [Int.natCast_add, Int.natCast_mul, Int.mul_add]
    generalize ((W ^ k : Nat) : Int) = P at *
    generalize ((V h k : Nat) : Int) = H at *
    generalize ((V f k : Nat) : Int) = F at *
    generalize ((V (ext g m) k : Nat) : Int) = G at *
    generalize ((f k : Nat) : Int) = d at *
    generalize ((ext g m k : Nat) : Int) = e at *
    generalize s / 4294967296 = t at *
    have e1 : (r : Int) * P + t * (P * ((W : Nat) : Int)) = s * P := by
      rw [hsp, Int.add_mul, W_eq]
      have : t * (P * ((4294967296 : Nat) : Int)) = 4294967296 * t * P := by
        rw [show ((4294967296 : Nat) : Int) = 4294967296 from rfl, Int.mul_comm P, ← Int.mul_assoc, Int.mul_comm t]
      omega
    have e2 : s * P = X * (d * P) + Y * (e * P) + c * P := by rw [hs, Int.add_mul, Int.add_mul, Int.mul_assoc, Int.mul_assoc]
    omega

theorem combrel_end {n m k : Nat} {f g h : Nat → Nat} {X Y c R : Int} (hk : k = n) (hm : m ≤ n) (hh : ∀ j, j < k → h j < W) (hR : X * ((V f n : Nat) : Int) + Y * ((V g m : Nat) : Int) = R) (h0 : 0 ≤ R) (h1 : R < ((W ^ n : Nat) : Int))
    (hv : ((V h k : Nat) : Int) + c * ((W ^ k : Nat) : Int) = X * ((V f k : Nat) : Int) + Y * ((V (ext g m) k : Nat) : Int)) : V h n = R.toNat := by
  subst hk
  rw [V_ext hm, hR] at hv
  have b1 := V_lt hh
  have hp := pow_pos' k
  rcases Int.lt_trichotomy c 0 with g | g | g
  · have : c * ((W ^ k : Nat) : Int) ≤ (-1) * ((W ^ k : Nat) : Int) := Int.mul_le_mul_of_nonneg_right (by omega) (by omega)
    omega
  · subst g; omega
  · have : 1 * ((W ^ k : Nat) : Int) ≤ c * ((W ^ k : Nat) : Int) := Int.mul_le_mul_of_nonneg_right (by omega) (by omega)
    omega

set_option maxRecDepth 100000 in
set_option maxHeartbeats 1000000 in
theorem combine_any (A B : Option Addr) (n m ca cb : Nat) (f g : Nat → Nat) (X Y R : Int) (w : World) (hn : n ≤ 1000000) (hmn : m ≤ n) (hA : Dg w A n f) (hB : Dg w B m g)
    (hf : ∀ i, i < n → f i < W) (hg : ∀ i, i < m → g i < W) (hok : CombOk X Y) (hR : X * ((V f n : Nat) : Int) + Y * ((V g m : Nat) : Int) = R) (h0 : 0 ≤ R) (h1 : R < ((W ^ n : Nat) : Int)) :
    Calls Tryz.prog 267 #[.slice A n ca, .slice B m cb, .int .i64 X, .int .i64 Y] w (RetD R.toNat w) := by
  have hmk := make_row n (by omega)
  have HF := Lib.hid hf
  have HG := Lib.hid hg
  have HOK := Lib.hid hok
  have HR := Lib.hid hR
  have H0 := Lib.hid h0
  have H1 := Lib.hid h1
  clear hf hg hok hR h0 h1
  go_enter Tryz.func267, Tryz.ntmps267
  go_wp2_with fail
  clear hmk
  go_loopw [10, 18] (fun c i wr => CombRel w n m f g X Y c i wr) (fun _ i _ => n - (intOf i).toNat)
  case atStart => exact combrel_start w n m f g X Y
  case round =>
    obtain ⟨k, c, h, hk, rfl, rfl, hc0, hc1, hh, hv, hrow, hbel⟩ := hrel
    have HH := Lib.hid hh
    have HV := Lib.hid hv
    clear hh hv
    by_cases hlt : k < n
    · obtain ⟨b, off, rfl, hb, hcells⟩ := (hA.keep hbel) (by omega)
      have hcl := hcells k hlt
      have hB1 : Dg wr B m g := hB.keep hbel
      have b1 : f k < 4294967296 := HF.out k hlt
      have b2 := ext_lt HG.out k
      have hcell := hrow.cell hlt
      have hfr := hrow.frozen k
      have hkn : (k : Int) < (n : Int) := by omega
      obtain ⟨q1, q2, q3, q4, q5, q6⟩ := HOK.out.bounds b1 b2
      have hkk : ((k : Int)).toNat = k := by omega
      clear hcells
      obtain ⟨p1, hp1⟩ : ∃ p, p = X * ((f k : Nat) : Int) := ⟨_, rfl⟩
      obtain ⟨p2, hp2⟩ : ∃ p, p = Y * ((ext g m k : Nat) : Int) := ⟨_, rfl⟩
      rw [← hp1] at q1 q2 q5 q6
      rw [← hp2] at q3 q4 q5 q6
      go_wp2_with fail
      go_quiet ((go_at_call 270; exact Calls.quiet_of_same ((at_any _ _ _ g _ _ (by omega) (by omega) (by omega) (Dg.drewN hB1 _)).mono fun _ _ hh => ⟨hh.1, hh.2.symm⟩)))
      go_wp2_with fail
      exact ⟨combrel_step hlt hc0 hc1 HOK.out b1 b2 HH.out HV.out hrow hbel rfl rfl rfl rfl rfl, by simp [intOf]; omega⟩
    · have hke : k = n := by omega
      have HE := Lib.hid (combrel_end hke hmn HH.out HR.out H0.out H1.out HV.out)
      have HD := Lib.hid (hrow.dg (Nat.le_refl _))
      have HH2 : Hid (∀ j, j < n → h j < W) := by have := HH.out; rw [hke] at this; exact this
      clear hke HV HH
      go_wp2_with ((with_reducible refine (trim_any _ _ _ h _ (Nat.le_refl _) (by omega) HD.out).mono ?_); rintro e w' ⟨q, rfl, hq, hN, hQ, rfl⟩)
      go_ret
      refine ⟨_, rfl, ⟨_, q, _, h, rfl, by omega, fun i hi => HH2.out i (by omega), hN, hQ.trans HE.out, ?_, hrow.tt _⟩, hbel⟩
      intro h0
      obtain ⟨b, off, e1, e2, e3⟩ := HD.out (by omega)
      exact ⟨b, off, e1, e2, fun i hi => e3 i (by omega)⟩

end Go.Proofs.YtabaknkjcoibpaaGreatDoor
