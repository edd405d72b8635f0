/- Windows of bits of long numbers, as plain facts. Lehmer's combination of two long numbers in memory. Lehmer's steps of Euclid's algorithm: what the factors are worth, as plain facts. The state of the loop of Lehmer's method, as plain facts. The leading parts of two long numbers, and Lehmer's steps on them. Lehmer's steps on the leading parts of two long numbers in memory. The greatest common divisor of numbers of any size in memory. -/
import Derived.Test.YtfhmhkbjcccejaaMLong
import Derived.Test.YtfhmhkbjcccejaaMPa
import Derived.Test.YtfhmhkbjcccejaaMInt1
import Derived.Deep.RegionLawGrows

namespace Go.Proofs.Ytfhmhkbjcccejaa
open Go.RowKit

/-- Three digits from position i on, where what follows is 0. -/
theorem V_three {f : Nat → Nat} {n i : Nat} (hf : ∀ j, j < n → f j < W) (h : V f n / W ^ i < W ^ 3) :
    V f n / W ^ i = ext f n i + W * ext f n (i + 1) + W * W * ext f n (i + 2) := by
  have dig : ∀ j, V f n / W ^ j % W = ext f n j := fun j => by
    by_cases g : j < n
    · rw [ext_in g]; exact V_digit hf g
    · rw [ext_out (by omega), Nat.div_eq_of_lt (Nat.lt_of_lt_of_le (V_lt hf) (pow_le (by omega))), Nat.zero_mod]
  have s1 : ∀ j, V f n / W ^ (j + 1) = V f n / W ^ j / W := fun j => by rw [pow_succ', Nat.div_div_eq_div_mul]
  have e0 := dig i
  have e1 := dig (i + 1)
  have e2 := dig (i + 2)
  have t1 := s1 i
  have t2 := s1 (i + 1)
  have e : i + 1 + 1 = i + 2 := rfl
  rw [e] at t2
  rw [t2, t1] at e2
  rw [t1] at e1
  have hW3 : W ^ 3 = W * W * W := by rw [Nat.pow_succ, Nat.pow_succ, Nat.pow_one]
  rw [hW3] at h
  generalize V f n / W ^ i = X at *
  rw [W_eq] at *
  omega

/-- The leading bits of a number. -/
theorem window_val {l hi X s : Nat} (hs : s < 32) (hl : l < 18446744073709551616) (hh : hi < 4294967296) (hX : X = (l + 18446744073709551616 * hi) / 2 ^ s) (hlt : X < 1152921504606846976) :
    bits BinOp.or IntKind.u64 ((l : Int) / 2 ^ s) (IntKind.u64.wrap ((hi : Int) * 2 ^ (64 - s))) = (X : Int) ∧ (s = 0 → hi = 0) := by
  obtain ⟨p, hp⟩ : ∃ p, p = 2 ^ s := ⟨_, rfl⟩
  obtain ⟨r, hr⟩ : ∃ r, r = 2 ^ (64 - s) := ⟨_, rfl⟩
  have hpr : p * r = 18446744073709551616 := by rw [hp, hr, ← Nat.pow_add, show s + (64 - s) = 64 from by omega]
  have hp0 : 0 < p := by rw [hp]; exact two_pow_pos s
  have hr0 : 0 < r := by rw [hr]; exact two_pow_pos _
  have eX : X = l / p + r * hi := by
    rw [hX, ← hp, ← hpr, Nat.mul_assoc, Nat.add_mul_div_left _ _ hp0]
  have hrh : r * hi < 1152921504606846976 := Nat.lt_of_le_of_lt (by rw [eX]; exact Nat.le_add_left _ _) hlt
  have hlp : l / p < r := by
    rw [Nat.div_lt_iff_lt_mul hp0, Nat.mul_comm]
    omega
  constructor
  · rw [← two_pow_cast, ← two_pow_cast, ← hp, ← hr, ← Int.natCast_mul, ← Int.natCast_ediv, IntKind.wrap_u64]
    have e2 : ((hi * r : Nat) : Int) % 18446744073709551616 = ((hi * r : Nat) : Int) := by
      rw [Nat.mul_comm] at hrh
      omega
    rw [e2, u64_or_nat _ _ (by omega) (by rw [Nat.mul_comm]; omega), Nat.or_comm, nat_join (64 - s) (hi * r) (l / p) (by rw [← hr]; exact Nat.mul_mod_left _ _) (by rw [← hr]; exact hlp)]
    rw [eX, Nat.mul_comm hi r, Nat.add_comm]
  · intro h0
    subst h0
    have : r = 18446744073709551616 := hr
    rw [this] at hrh
    omega

end Go.Proofs.Ytfhmhkbjcccejaa

namespace Go.Proofs.Ytfhmhkbjcccejaa
open Go.RowKit

/-- What has been combined after k digits. -/
def CombRel (w : World) (n m : Nat) (f g : Nat → Nat) (X Y : Int) (carry i : Value) (wr : World) : Prop :=
  ∃ (k : Nat) (c : Int) (h : Nat → Nat), k ≤ n ∧ i = .int .i64 (k : Int) ∧ carry = .int .i64 c ∧ -2147483648 ≤ c ∧ c < 2147483648 ∧ (∀ j, j < k → h j < W) ∧
    ((V h k : Nat) : Int) + c * ((W ^ k : Nat) : Int) = X * ((V f k : Nat) : Int) + Y * ((V (ext g m) k : Nat) : Int) ∧ Row wr w.heap.size n h ∧ Below w.heap.size w wr

theorem combrel_start (w : World) (n m : Nat) (f g : Nat → Nat) (X Y : Int) : CombRel w n m f g X Y (.int .i64 0) (.int .i64 0) (w.alloc (.cells (madeCells #[.int .u32 0] n) 98)) :=
  ⟨0, 0, fun _ => 0, Nat.zero_le _, rfl, rfl, by omega, by omega, fun j hj => by omega, by simp [V_zero], Row.new w n, (Below.refl _ _).alloc (Nat.le_refl _) _⟩

theorem prod_up {X : Int} {d : Nat} (h0 : 0 ≤ X) (h1 : X < 2147483648) (hd : d < 4294967296) : 0 ≤ X * (d : Int) ∧ X * (d : Int) ≤ 9223372030412324865 := by
  obtain ⟨x, rfl⟩ := Int.eq_ofNat_of_zero_le h0
  have h : x * d ≤ 2147483647 * 4294967295 := Nat.mul_le_mul (by omega) (by omega)
  have e : ((x * d : Nat) : Int) = (x : Int) * (d : Int) := Int.natCast_mul _ _
  omega
theorem prod_dn {X : Int} {d : Nat} (h0 : X ≤ 0) (h1 : -2147483648 < X) (hd : d < 4294967296) : X * (d : Int) ≤ 0 ∧ -9223372030412324865 ≤ X * (d : Int) := by
  have := prod_up (X := -X) (by omega) (by omega) hd
  rw [Int.neg_mul] at this
  omega

/-- The signs and sizes of the two factors. -/
def CombOk (X Y : Int) : Prop := -2147483648 < X ∧ X < 2147483648 ∧ -2147483648 < Y ∧ Y < 2147483648 ∧ ((0 ≤ X ∧ Y ≤ 0) ∨ (X ≤ 0 ∧ 0 ≤ Y))

theorem CombOk.bounds {X Y : Int} (h : CombOk X Y) {d e : Nat} (hd : d < 4294967296) (he : e < 4294967296) :
    -9223372030412324865 ≤ X * (d : Int) ∧ X * (d : Int) ≤ 9223372030412324865 ∧ -9223372030412324865 ≤ Y * (e : Int) ∧ Y * (e : Int) ≤ 9223372030412324865 ∧
      -9223372030412324865 ≤ X * (d : Int) + Y * (e : Int) ∧ X * (d : Int) + Y * (e : Int) ≤ 9223372030412324865 := by
  obtain ⟨h1, h2, h3, h4, h5⟩ := h
  rcases h5 with ⟨a, b⟩ | ⟨a, b⟩
  · have p := prod_up a h2 hd
    have q := prod_dn b h3 he
    omega
  · have p := prod_dn a h1 hd
    have q := prod_up b h4 he
    omega

theorem combrel_step {w wr wd : World} {n m k : Nat} {f g h : Nat → Nat} {X Y c : Int} (hk : k < n) (hc0 : -2147483648 ≤ c) (hc1 : c < 2147483648) (hok : CombOk X Y) (hf : f k < 4294967296) (hg : ext g m k < 4294967296) (hh : ∀ j, j < k → h j < W)
    (hv : ((V h k : Nat) : Int) + c * ((W ^ k : Nat) : Int) = X * ((V f k : Nat) : Int) + Y * ((V (ext g m) k : Nat) : Int)) (hrow : Row wr w.heap.size n h) (hbel : Below w.heap.size w wr) {q : Nat} {a s : Int} {i v : Value}
    (hs : s = X * ((f k : Nat) : Int) + Y * ((ext g m k : Nat) : Int) + c) (ha : a = (k : Int) + 1) (hi : i = .int .i64 a)
    (hw : wd = (wr.drewN q).setCell ⟨w.heap.size, k, none⟩ (.int .u32 (s % 4294967296))) (hb : v = .int .i64 (s / 4294967296)) :
    CombRel w n m f g X Y v i wd := by
  subst ha hi hw hb
  have hbd := hok.bounds hf hg
  obtain ⟨r, hr⟩ := Int.eq_ofNat_of_zero_le (show 0 ≤ s % 4294967296 by omega)
  have hrW : r < W := by rw [W_eq]; omega
  have hsp : s = 4294967296 * (s / 4294967296) + r := by omega
  rw [hr]
  have hrow' : Row (wr.drewN q) w.heap.size n h := hrow.drewN q
  have hbel' : Below w.heap.size w (wr.drewN q) := ⟨hbel.os, hbel.tape, hbel.output, hbel.size, hbel.block⟩
  refine ⟨k + 1, s / 4294967296, up h k r, by omega, by rw [show ((k + 1 : Nat) : Int) = (k : Int) + 1 from by omega], rfl, by omega, by omega, ?_, ?_, hrow'.set k _, hbel'.setCell (Nat.le_refl _) _⟩
  · intro j hj
    by_cases e : j = k
    · rw [e, up_at]; exact hrW
    · rw [up_far h _ e]; exact hh j (by omega)
  · rw [V_succ, V_succ, V_succ, up_at, V_up_below h _ (Nat.le_refl k), pow_succ']
    simp only [Int.natCast_add, Int.natCast_mul, Int.mul_add]
    generalize ((W ^ k : Nat) : Int) = P at *
    generalize ((V h k : Nat) : Int) = H at *
    generalize ((V f k : Nat) : Int) = F at *
    generalize ((V (ext g m) k : Nat) : Int) = G at *
    generalize ((f k : Nat) : Int) = d at *
    generalize ((ext g m k : Nat) : Int) = e at *
    generalize s / 4294967296 = t at *
    have e1 : (r : Int) * P + t * (P * ((W : Nat) : Int)) = s * P := by
      rw [hsp, Int.add_mul, W_eq]
      have : t * (P * ((4294967296 : Nat) : Int)) = 4294967296 * t * P := by
        rw [show ((4294967296 : Nat) : Int) = 4294967296 from rfl, Int.mul_comm P, ← Int.mul_assoc, Int.mul_comm t]
      omega
    have e2 : s * P = X * (d * P) + Y * (e * P) + c * P := by rw [hs, Int.add_mul, Int.add_mul, Int.mul_assoc, Int.mul_assoc]
    omega

theorem combrel_end {n m k : Nat} {f g h : Nat → Nat} {X Y c R : Int} (hk : k = n) (hm : m ≤ n) (hh : ∀ j, j < k → h j < W) (hR : X * ((V f n : Nat) : Int) + Y * ((V g m : Nat) : Int) = R) (h0 : 0 ≤ R) (h1 : R < ((W ^ n : Nat) : Int))
    (hv : ((V h k : Nat) : Int) + c * ((W ^ k : Nat) : Int) = X * ((V f k : Nat) : Int) + Y * ((V (ext g m) k : Nat) : Int)) : V h n = R.toNat := by
  subst hk
  rw [V_ext hm, hR] at hv
  have b1 := V_lt hh
  have hp := pow_pos' k
  rcases Int.lt_trichotomy c 0 with g | g | g
  · have : c * ((W ^ k : Nat) : Int) ≤ (-1) * ((W ^ k : Nat) : Int) := Int.mul_le_mul_of_nonneg_right (by omega) (by omega)
    omega
  · subst g; omega
  · have : 1 * ((W ^ k : Nat) : Int) ≤ c * ((W ^ k : Nat) : Int) := Int.mul_le_mul_of_nonneg_right (by omega) (by omega)
    omega

set_option maxRecDepth 100000 in
set_option maxHeartbeats 1000000 in
theorem combine_any (A B : Option Addr) (n m ca cb : Nat) (f g : Nat → Nat) (X Y R : Int) (w : World) (hn : n ≤ 1000000) (hmn : m ≤ n) (hA : Dg w A n f) (hB : Dg w B m g)
    (hf : ∀ i, i < n → f i < W) (hg : ∀ i, i < m → g i < W) (hok : CombOk X Y) (hR : X * ((V f n : Nat) : Int) + Y * ((V g m : Nat) : Int) = R) (h0 : 0 ≤ R) (h1 : R < ((W ^ n : Nat) : Int)) :
    Calls Try.prog 103 #[.slice A n ca, .slice B m cb, .int .i64 X, .int .i64 Y] w (RetD R.toNat w) := by
  have hmk := make_row n (by omega)
  have HF := Lib.hid hf
  have HG := Lib.hid hg
  have HOK := Lib.hid hok
  have HR := Lib.hid hR
  have H0 := Lib.hid h0
  have H1 := Lib.hid h1
  clear hf hg hok hR h0 h1
  go_enter Try.func103, Try.ntmps103
  go_wp2_with fail
  clear hmk
  go_loopw [10, 18] (fun c i wr => CombRel w n m f g X Y c i wr) (fun _ i _ => n - (intOf i).toNat)
  case atStart => exact combrel_start w n m f g X Y
  case round =>
    obtain ⟨k, c, h, hk, rfl, rfl, hc0, hc1, hh, hv, hrow, hbel⟩ := hrel
    have HH := Lib.hid hh
    have HV := Lib.hid hv
    clear hh hv
    by_cases hlt : k < n
    · obtain ⟨b, off, rfl, hb, hcells⟩ := (hA.keep hbel) (by omega)
      have hcl := hcells k hlt
      have hB1 : Dg wr B m g := hB.keep hbel
      have b1 : f k < 4294967296 := HF.out k hlt
      have b2 := ext_lt HG.out k
      have hcell := hrow.cell hlt
      have hfr := hrow.frozen k
      have hkn : (k : Int) < (n : Int) := by omega
      obtain ⟨q1, q2, q3, q4, q5, q6⟩ := HOK.out.bounds b1 b2
      have hkk : ((k : Int)).toNat = k := by omega
      clear hcells
      obtain ⟨p1, hp1⟩ : ∃ p, p = X * ((f k : Nat) : Int) := ⟨_, rfl⟩
      obtain ⟨p2, hp2⟩ : ∃ p, p = Y * ((ext g m k : Nat) : Int) := ⟨_, rfl⟩
      rw [← hp1] at q1 q2 q5 q6
      rw [← hp2] at q3 q4 q5 q6
      go_wp2_with fail
      go_quiet ((go_at_call 108; exact Calls.quiet_of_same ((at_any _ _ _ g _ _ (by omega) (by omega) (by omega) (Dg.drewN hB1 _)).mono fun _ _ hh => ⟨hh.1, hh.2.symm⟩)))
      go_wp2_with fail
      exact ⟨combrel_step hlt hc0 hc1 HOK.out b1 b2 HH.out HV.out hrow hbel rfl rfl rfl rfl rfl, by simp [intOf]; omega⟩
    · have hke : k = n := by omega
      have HE := Lib.hid (combrel_end hke hmn HH.out HR.out H0.out H1.out HV.out)
      have HD := Lib.hid (hrow.dg (Nat.le_refl _))
      have HH2 : Hid (∀ j, j < n → h j < W) := by have := HH.out; rw [hke] at this; exact this
      clear hke HV HH
      go_wp2_with ((with_reducible refine (trim_any _ _ _ h _ (Nat.le_refl _) (by omega) HD.out).mono ?_); rintro e w' ⟨q, rfl, hq, hN, hQ, rfl⟩)
      go_ret
      refine ⟨_, rfl, ⟨_, q, _, h, rfl, by omega, fun i hi => HH2.out i (by omega), hN, hQ.trans HE.out, ?_, hrow.tt _⟩, hbel⟩
      intro h0
      obtain ⟨b, off, e1, e2, e3⟩ := HD.out (by omega)
      exact ⟨b, off, e1, e2, fun i hi => e3 i (by omega)⟩

end Go.Proofs.Ytfhmhkbjcccejaa

namespace Go.Proofs.Ytfhmhkbjcccejaa

/-- The state after some steps: x and y are the combinations of x0 and y0 with the factors A, B and C, D. -/
structure LI (x0 y0 s A B C D x y : Int) : Prop where
  hx : x = A * x0 + B * y0
  hy : y = C * x0 + D * y0
  det : A * D - B * C = s
  pat : (s = 1 ∧ 0 ≤ A ∧ B ≤ 0 ∧ C ≤ 0 ∧ 0 ≤ D) ∨ (s = -1 ∧ A ≤ 0 ∧ 0 ≤ B ∧ 0 ≤ C ∧ D ≤ 0)
  nA : 0 ≤ x + A
  nB : 0 ≤ x + B
  nC : 0 ≤ y + C
  nD : 0 ≤ y + D

theorem LI.start {x0 y0 : Int} (h : 0 ≤ x0) (h' : 0 ≤ y0) : LI x0 y0 1 1 0 0 1 x0 y0 :=
  ⟨by omega, by omega, by omega, Or.inl ⟨rfl, by omega, by omega, by omega, by omega⟩, by omega, by omega, by omega, by omega⟩

/-- x0 and y0 from the state. -/
theorem LI.back {x0 y0 s A B C D x y : Int} (h : LI x0 y0 s A B C D x y) : s * x0 = D * x - B * y ∧ s * y0 = A * y - C * x := by
  obtain ⟨hx, hy, hd, -⟩ := h
  subst hx hy hd
  constructor
  · simp only [Int.mul_add, Int.sub_mul, Int.mul_assoc]
    have e1 : D * (B * y0) = B * (D * y0) := Int.mul_left_comm _ _ _
    have e2 : D * (A * x0) = A * (D * x0) := Int.mul_left_comm _ _ _
    omega
  · simp only [Int.mul_add, Int.sub_mul, Int.mul_assoc]
    have e1 : C * (A * x0) = A * (C * x0) := Int.mul_left_comm _ _ _
    have e2 : C * (B * y0) = B * (C * y0) := Int.mul_left_comm _ _ _
    omega

/-- One step. -/
theorem LI.step {x0 y0 s A B C D x y q : Int} (h : LI x0 y0 s A B C D x y) (hC : 0 < y + C) (hD : 0 < y + D) (h1 : q * (y + C) ≤ x + A) (h2 : q * (y + D) ≤ x + B) (hq : 0 ≤ q) :
    LI x0 y0 (-s) C D (A - q * C) (B - q * D) y (x - q * y) := by
  obtain ⟨hx, hy, hd, hp, -, -, -, -⟩ := h
  have e1 : q * (y + C) = q * y + q * C := Int.mul_add _ _ _
  have e2 : q * (y + D) = q * y + q * D := Int.mul_add _ _ _
  refine ⟨hy, ?_, ?_, ?_, by omega, by omega, by omega, by omega⟩
  · rw [hx, hy, Int.sub_mul, Int.sub_mul, Int.mul_add, Int.mul_assoc, Int.mul_assoc]
    omega
  · have e3 : C * (B - q * D) = C * B - C * (q * D) := Int.mul_sub _ _ _
    have e4 : D * (A - q * C) = D * A - D * (q * C) := Int.mul_sub _ _ _
    have e5 : C * (q * D) = D * (q * C) := by rw [Int.mul_left_comm, Int.mul_comm C D, Int.mul_left_comm]
    have e6 : C * B = B * C := Int.mul_comm _ _
    have e7 : D * A = A * D := Int.mul_comm _ _
    omega
  · rcases hp with ⟨rfl, p1, p2, p3, p4⟩ | ⟨rfl, p1, p2, p3, p4⟩
    · have m1 : q * C ≤ 0 := Int.mul_nonpos_of_nonneg_of_nonpos hq p3
      have m2 : 0 ≤ q * D := Int.mul_nonneg hq p4
      exact Or.inr ⟨rfl, p3, p4, by omega, by omega⟩
    · have m1 : 0 ≤ q * C := Int.mul_nonneg hq p3
      have m2 : q * D ≤ 0 := Int.mul_nonpos_of_nonneg_of_nonpos hq p4
      exact Or.inl ⟨rfl, p3, p4, by omega, by omega⟩

/-- The new factors are short: their product with y is at most the greater of the two numbers. -/
theorem LI.short {x0 y0 s A B C D x y : Int} (h : LI x0 y0 s A B C D x y) (hx : 0 ≤ x) (hy : 0 ≤ y) :
    D.natAbs * x.natAbs ≤ (s * x0).natAbs ∧ C.natAbs * x.natAbs ≤ (s * y0).natAbs := by
  obtain ⟨b1, b2⟩ := h.back
  rw [← Int.natAbs_mul, ← Int.natAbs_mul]
  rcases h.pat with ⟨-, p1, p2, p3, p4⟩ | ⟨-, p1, p2, p3, p4⟩
  · have m1 := Int.mul_nonneg p4 hx
    have m2 := Int.mul_nonpos_of_nonpos_of_nonneg p2 hy
    have m3 := Int.mul_nonpos_of_nonpos_of_nonneg p3 hx
    have m4 := Int.mul_nonneg p1 hy
    constructor <;> omega
  · have m1 := Int.mul_nonpos_of_nonpos_of_nonneg p4 hx
    have m2 := Int.mul_nonneg p2 hy
    have m3 := Int.mul_nonneg p3 hx
    have m4 := Int.mul_nonpos_of_nonpos_of_nonneg p1 hy
    constructor <;> omega

/-- What the factors make of the two numbers themselves, of which x0 and y0 are the leading parts. -/
theorem LI.rest {x0 y0 s A B C D x y P a b al be : Int} (h : LI x0 y0 s A B C D x y) (ha : a = x0 * P + al) (hb : b = y0 * P + be) (h1 : 0 ≤ al) (h2 : al ≤ P) (h3 : 0 ≤ be) (h4 : be ≤ P) (hlt : y + C < x + A) (hlt' : y + D < x + B) :
    0 ≤ C * a + D * b ∧ C * a + D * b ≤ A * a + B * b ∧ (0 < P → C * a + D * b < A * a + B * b) := by
  have er : A * a + B * b = x * P + (A * al + B * be) := by
    rw [ha, hb, h.hx, Int.mul_add, Int.mul_add, Int.add_mul, ← Int.mul_assoc, ← Int.mul_assoc]
    omega
  have er' : C * a + D * b = y * P + (C * al + D * be) := by
    rw [ha, hb, h.hy, Int.mul_add, Int.mul_add, Int.add_mul, ← Int.mul_assoc, ← Int.mul_assoc]
    omega
  have hP : 0 ≤ P := by omega
  have up : ∀ {k t : Int}, 0 ≤ k → 0 ≤ t → t ≤ P → 0 ≤ k * t ∧ k * t ≤ k * P := fun hk ht hp => ⟨Int.mul_nonneg hk ht, Int.mul_le_mul_of_nonneg_left hp hk⟩
  have dn : ∀ {k t : Int}, k ≤ 0 → 0 ≤ t → t ≤ P → k * P ≤ k * t ∧ k * t ≤ 0 := fun hk ht hp => ⟨Int.mul_le_mul_of_nonpos_left hk hp, Int.mul_nonpos_of_nonpos_of_nonneg hk ht⟩
  have key : ∀ {u v : Int}, u < v → u * P ≤ v * P ∧ (0 < P → u * P < v * P) := fun huv => ⟨Int.mul_le_mul_of_nonneg_right (by omega) hP, fun hp => Int.mul_lt_mul_of_pos_right huv hp⟩
  have nn : ∀ {u : Int}, 0 ≤ u → 0 ≤ u * P := fun hu => Int.mul_nonneg hu hP
  have d1 : (y + C) * P = y * P + C * P := Int.add_mul _ _ _
  have d2 : (y + D) * P = y * P + D * P := Int.add_mul _ _ _
  have d3 : (x + A) * P = x * P + A * P := Int.add_mul _ _ _
  have d4 : (x + B) * P = x * P + B * P := Int.add_mul _ _ _
  have k1 := key hlt
  have k2 := key hlt'
  have n1 := nn h.nC
  have n2 := nn h.nD
  rcases h.pat with ⟨-, p1, p2, p3, p4⟩ | ⟨-, p1, p2, p3, p4⟩
  · have u1 := up p1 h1 h2
    have u2 := dn p2 h3 h4
    have u3 := dn p3 h1 h2
    have u4 := up p4 h3 h4
    refine ⟨by omega, by omega, fun hp => ?_⟩
    have := k2.2 hp
    omega
  · have u1 := dn p1 h1 h2
    have u2 := up p2 h3 h4
    have u3 := up p3 h1 h2
    have u4 := dn p4 h3 h4
    refine ⟨by omega, by omega, fun hp => ?_⟩
    have := k1.2 hp
    omega

/-- The common divisor stays. -/
theorem LI.gcd {x0 y0 s A B C D x y : Int} (h : LI x0 y0 s A B C D x y) (a b : Int) : Int.gcd (A * a + B * b) (C * a + D * b) = Int.gcd a b := by
  have hs : s = 1 ∨ s = -1 := by rcases h.pat with ⟨e, -⟩ | ⟨e, -⟩ <;> simp [e]
  obtain ⟨r, hr⟩ : ∃ r, A * a + B * b = r := ⟨_, rfl⟩
  obtain ⟨r', hr'⟩ : ∃ r', C * a + D * b = r' := ⟨_, rfl⟩
  rw [hr, hr']
  have e1 : s * a = D * r - B * r' := by
    rw [← hr, ← hr', ← h.det, Int.sub_mul, Int.mul_add, Int.mul_add, Int.mul_assoc, Int.mul_assoc]
    have f1 : D * (A * a) = A * (D * a) := Int.mul_left_comm _ _ _
    have f2 : D * (B * b) = B * (D * b) := Int.mul_left_comm _ _ _
    omega
  have e2 : s * b = A * r' - C * r := by
    rw [← hr, ← hr', ← h.det, Int.sub_mul, Int.mul_add, Int.mul_add, Int.mul_assoc, Int.mul_assoc]
    have f1 : C * (A * a) = A * (C * a) := Int.mul_left_comm _ _ _
    have f2 : C * (B * b) = B * (C * b) := Int.mul_left_comm _ _ _
    omega
  have back : ∀ {u v : Int} {d : Int}, s * u = v → d ∣ v → d ∣ u := fun {u v d} e hd => by
    rcases hs with k | k
    · rw [k, Int.one_mul] at e
      rw [e]
      exact hd
    · rw [k, Int.neg_mul, Int.one_mul] at e
      rw [show u = -v by omega]
      exact Int.dvd_neg.2 hd
  apply Nat.dvd_antisymm
  · have g1 := Int.gcd_dvd_left r r'
    have g2 := Int.gcd_dvd_right r r'
    exact Int.dvd_gcd (back e1 (Int.dvd_sub (Int.dvd_mul_of_dvd_right g1) (Int.dvd_mul_of_dvd_right g2))) (back e2 (Int.dvd_sub (Int.dvd_mul_of_dvd_right g2) (Int.dvd_mul_of_dvd_right g1)))
  · have g1 := Int.gcd_dvd_left a b
    have g2 := Int.gcd_dvd_right a b
    refine Int.dvd_gcd ?_ ?_
    · rw [← hr]
      exact Int.dvd_add (Int.dvd_mul_of_dvd_right g1) (Int.dvd_mul_of_dvd_right g2)
    · rw [← hr']
      exact Int.dvd_add (Int.dvd_mul_of_dvd_right g1) (Int.dvd_mul_of_dvd_right g2)

/-- Both quotients agree: then y is long. -/
theorem LI.long {x0 y0 s A B C D x y q : Int} (h : LI x0 y0 s A B C D x y) (hC : 0 < y + C) (hD : 0 < y + D) (h1 : q * (y + C) ≤ x + A) (h2 : x + A < q * (y + C) + (y + C)) (h3 : q * (y + D) ≤ x + B) (h4 : x + B < q * (y + D) + (y + D))
    (hx0 : 0 ≤ x0) (hy0 : 0 ≤ y0) (hyx : y0 ≤ x0) (hx : 0 ≤ x) (hy : 0 ≤ y) (hlt : (y + C < x + A ∧ y + D < x + B) ∨ (C = 0 ∧ D = 1 ∧ y = y0)) : x0 < 2 * (y * y) := by
  obtain ⟨e1, he1⟩ : ∃ e1, x + A = q * (y + C) + e1 := ⟨x + A - q * (y + C), by omega⟩
  obtain ⟨e2, he2⟩ : ∃ e2, x + B = q * (y + D) + e2 := ⟨x + B - q * (y + D), by omega⟩
  have r1 : 0 ≤ e1 := by omega
  have r2 : e1 ≤ y + C - 1 := by omega
  have r3 : 0 ≤ e2 := by omega
  have r4 : e2 ≤ y + D - 1 := by omega
  obtain ⟨b1, b2⟩ := h.back
  -- the difference of the cross products
  have c1 : e1 * (y + D) - e2 * (y + C) = s * x0 + s * y0 + s := by
    have m1 : (x + A) * (y + D) = q * (y + C) * (y + D) + e1 * (y + D) := by rw [he1, Int.add_mul]
    have m2 : (x + B) * (y + C) = q * (y + D) * (y + C) + e2 * (y + C) := by rw [he2, Int.add_mul]
    have m3 : q * (y + C) * (y + D) = q * (y + D) * (y + C) := Int.mul_right_comm _ _ _
    have m4 : (x + A) * (y + D) = x * y + A * y + (x * D + A * D) := by rw [Int.mul_add, Int.add_mul, Int.add_mul]
    have m5 : (x + B) * (y + C) = x * y + B * y + (x * C + B * C) := by rw [Int.mul_add, Int.add_mul, Int.add_mul]
    have m6 : x * D = D * x := Int.mul_comm _ _
    have m7 : x * C = C * x := Int.mul_comm _ _
    have := h.det
    omega
  have u1 : e1 * (y + D) ≤ (y + C - 1) * (y + D) := Int.mul_le_mul_of_nonneg_right r2 (by omega)
  have u2 : e2 * (y + C) ≤ (y + D - 1) * (y + C) := Int.mul_le_mul_of_nonneg_right r4 (by omega)
  have u3 : 0 ≤ e1 * (y + D) := Int.mul_nonneg r1 (by omega)
  have u4 : 0 ≤ e2 * (y + C) := Int.mul_nonneg r3 (by omega)
  have v1 : (y + C - 1) * (y + D) = (y + C) * (y + D) - (y + D) := by rw [Int.sub_mul, Int.one_mul]
  have v2 : (y + D - 1) * (y + C) = (y + C) * (y + D) - (y + C) := by rw [Int.sub_mul, Int.one_mul, Int.mul_comm (y + D)]
  have w1 : x0 + y0 + 1 < (y + C) * (y + D) := by
    rcases h.pat with ⟨e, -⟩ | ⟨e, -⟩
    · rw [e] at c1
      omega
    · rw [e] at c1
      omega
  -- the greater of the two factors
  have fin : ∀ E F : Int, 0 ≤ E → F ≤ 0 → (y + E) * (y + F) = (y + C) * (y + D) → (y + E ≤ x ∨ E = 1) → E * x ≤ x0 → (E = 1 → y = y0 ∨ y + E ≤ x) → x0 < 2 * (y * y) := by
    intro E F hE hF he hor hsx hone
    have g1 : (y + E) * (y + F) ≤ (y + E) * y := Int.mul_le_mul_of_nonneg_left (by omega) (by omega)
    have g2 : (y + E) * y = y * y + E * y := Int.add_mul _ _ _
    by_cases hEy : E ≤ y
    · have g3 : E * y ≤ y * y := Int.mul_le_mul_of_nonneg_right hEy hy
      omega
    · -- E > y: then E (y + E) <= E x <= x0 < (y + E) y, no
      by_cases hc : y + E ≤ x
      · have g4 : E * (y + E) ≤ E * x := Int.mul_le_mul_of_nonneg_left hc hE
        have g5 : y * (y + E) ≤ E * (y + E) := Int.mul_le_mul_of_nonneg_right (by omega) (by omega)
        have g6 : y * (y + E) = (y + E) * y := Int.mul_comm _ _
        omega
      · have h1' : E = 1 := by omega
        have hy' : y = 0 := by omega
        have g4 : (0 + E) * (0 + F) = E * F := by rw [Int.zero_add, Int.zero_add]
        rw [hy'] at w1 he g1
        simp at g1
        omega
  obtain ⟨t1, t2⟩ := h.short hx hy
  rcases h.pat with ⟨hs, p1, p2, p3, p4⟩ | ⟨hs, p1, p2, p3, p4⟩
  · have m1 : D * x ≤ x0 := by
      rw [hs, Int.one_mul] at b1
      have := Int.mul_nonpos_of_nonpos_of_nonneg p2 hy
      omega
    refine fin D C p4 p3 (Int.mul_comm _ _) ?_ m1 ?_
    · rcases hlt with ⟨k1, k2⟩ | ⟨k1, k2, -⟩
      · exact Or.inl (by omega)
      · exact Or.inr k2
    · intro _
      rcases hlt with ⟨k1, k2⟩ | ⟨k1, k2, k3⟩
      · exact Or.inr (by omega)
      · exact Or.inl k3
  · have m1 : C * x ≤ x0 := by
      rw [hs] at b2
      have := Int.mul_nonpos_of_nonpos_of_nonneg p1 hy
      omega
    refine fin C D p3 p4 rfl ?_ m1 ?_
    · rcases hlt with ⟨k1, k2⟩ | ⟨k1, k2, -⟩
      · exact Or.inl (by omega)
      · omega
    · intro _
      rcases hlt with ⟨k1, k2⟩ | ⟨k1, k2, k3⟩
      · exact Or.inr (by omega)
      · omega

end Go.Proofs.Ytfhmhkbjcccejaa

namespace Go.Proofs.Ytfhmhkbjcccejaa

/-- The state: no step yet, or at least one, with short factors. -/
structure LS (x0 y0 A B C D x y : Int) : Prop where
  li : ∃ s, LI x0 y0 s A B C D x y
  y0' : 0 ≤ y
  yx : y ≤ x
  st : (A = 1 ∧ B = 0 ∧ C = 0 ∧ D = 1 ∧ x = x0 ∧ y = y0) ∨
    (y + C < x + A ∧ y + D < x + B ∧ A.natAbs < 2147483648 ∧ B.natAbs < 2147483648 ∧ C.natAbs < 2147483648 ∧ D.natAbs < 2147483648)

theorem LS.start {x0 y0 : Int} (h : 0 ≤ y0) (h' : y0 ≤ x0) : LS x0 y0 1 0 0 1 x0 y0 :=
  ⟨⟨1, LI.start (by omega) h⟩, h, h', Or.inl ⟨rfl, rfl, rfl, rfl, rfl, rfl⟩⟩

/-- A factor whose product with a number over 2^29 is under 2^60. -/
theorem short_of {c x : Nat} (hx : 536870912 < x) (h : c * x < 1152921504606846976) : c < 2147483648 := by
  rcases Nat.lt_or_ge c 2147483648 with g | g
  · exact g
  · have := Nat.mul_le_mul g (Nat.le_of_lt hx)
    have h2 : 2147483648 * 536870912 ≤ c * x := this
    omega

theorem long_of {x0 y : Int} (hy : 0 ≤ y) (h0 : 576460752303423488 ≤ x0) (h : x0 < 2 * (y * y)) : 536870912 < y := by
  rcases Int.lt_or_le 536870912 y with g | g
  · exact g
  · have h1 : y * y ≤ 536870912 * y := Int.mul_le_mul_of_nonneg_right g hy
    omega

/-- One step, where both quotients agree. -/
theorem LS.step {x0 y0 A B C D x y q : Int} (h : LS x0 y0 A B C D x y) (hx0 : 576460752303423488 ≤ x0) (hx1 : x0 < 1152921504606846976) (hy0 : 0 ≤ y0) (hyx0 : y0 ≤ x0) (hC : 0 < y + C) (hD : 0 < y + D)
    (h1 : q * (y + C) ≤ x + A) (h2 : x + A < q * (y + C) + (y + C)) (h3 : q * (y + D) ≤ x + B) (h4 : x + B < q * (y + D) + (y + D)) (hq : 0 ≤ q) :
    LS x0 y0 C D (A - q * C) (B - q * D) y (x - q * y) ∧ x - q * y < y ∧ (x - q * y + (A - q * C) < y + C ∧ x - q * y + (B - q * D) < y + D) := by
  obtain ⟨⟨s, li⟩, hy, hyx, hst⟩ := h
  have hx : 0 ≤ x := by omega
  have hlong : x0 < 2 * (y * y) := li.long hC hD h1 h2 h3 h4 (by omega) hy0 hyx0 hx hy (by
    rcases hst with ⟨-, -, k3, k4, -, k6⟩ | ⟨k1, k2, -⟩
    · exact Or.inr ⟨k3, k4, k6⟩
    · exact Or.inl ⟨k1, k2⟩)
  have hl29 := long_of hy (by omega) hlong
  have li' := li.step hC hD h1 h3 hq
  have eC : q * (y + C) = q * y + q * C := Int.mul_add _ _ _
  have eD : q * (y + D) = q * y + q * D := Int.mul_add _ _ _
  have hqy : 0 ≤ x - q * y ∧ x - q * y < y := by
    rcases li.pat with ⟨-, p1, p2, p3, p4⟩ | ⟨-, p1, p2, p3, p4⟩
    · have m1 : 0 ≤ q * D := Int.mul_nonneg hq p4
      have m2 : q * C ≤ 0 := Int.mul_nonpos_of_nonneg_of_nonpos hq p3
      constructor <;> omega
    · have m1 : 0 ≤ q * C := Int.mul_nonneg hq p3
      have m2 : q * D ≤ 0 := Int.mul_nonpos_of_nonneg_of_nonpos hq p4
      constructor <;> omega
  obtain ⟨t1, t2⟩ := li'.short hy hqy.1
  have n1 : ((-s) * x0).natAbs = x0.natAbs := by
    rcases li.pat with ⟨e, -⟩ | ⟨e, -⟩ <;> rw [e] <;> simp
  have n2 : ((-s) * y0).natAbs = y0.natAbs := by
    rcases li.pat with ⟨e, -⟩ | ⟨e, -⟩ <;> rw [e] <;> simp
  rw [n1] at t1
  rw [n2] at t2
  obtain ⟨u1, u2⟩ := li.short hx hy
  have n3 : (s * x0).natAbs = x0.natAbs := by
    rcases li.pat with ⟨e, -⟩ | ⟨e, -⟩ <;> rw [e] <;> simp
  have n4 : (s * y0).natAbs = y0.natAbs := by
    rcases li.pat with ⟨e, -⟩ | ⟨e, -⟩ <;> rw [e] <;> simp
  rw [n3] at u1
  rw [n4] at u2
  refine ⟨⟨⟨-s, li'⟩, hqy.1, by omega, Or.inr ⟨by omega, by omega, ?_, ?_, ?_, ?_⟩⟩, hqy.2, by omega, by omega⟩
  · exact short_of (x := x.natAbs) (by omega) (by omega)
  · exact short_of (x := x.natAbs) (by omega) (by omega)
  · exact short_of (x := y.natAbs) (by omega) (by omega)
  · exact short_of (x := y.natAbs) (by omega) (by omega)

/-- Bounds of the state, for the arithmetic in 64 bits. -/
theorem LS.bounds {x0 y0 A B C D x y : Int} (h : LS x0 y0 A B C D x y) (hx1 : x0 < 1152921504606846976) (hy0 : 0 ≤ y0) (hyx0 : y0 ≤ x0) :
    0 ≤ y ∧ y ≤ x ∧ x < 1152921504606846976 ∧ -2147483648 < A ∧ A < 2147483648 ∧ -2147483648 < B ∧ B < 2147483648 ∧ -2147483648 < C ∧ C < 2147483648 ∧ -2147483648 < D ∧ D < 2147483648 ∧ 0 ≤ x + A ∧ 0 ≤ x + B ∧ 0 ≤ y + C ∧ 0 ≤ y + D := by
  obtain ⟨⟨s, li⟩, hy, hyx, hst⟩ := h
  have hxx : x ≤ x0 := by
    rcases hst with ⟨-, -, -, -, e, -⟩ | -
    · omega
    · obtain ⟨u1, u2⟩ := li.short (by omega) hy
      have hdet := li.det
      rcases li.pat with ⟨e, p1, p2, p3, p4⟩ | ⟨e, p1, p2, p3, p4⟩
      · rw [e, Int.one_mul] at u1 u2
        have hD : 0 < D := by
          rcases Int.lt_or_le 0 D with g | g
          · exact g
          · have : D = 0 := by omega
            subst this
            have : 0 ≤ B * C := Int.mul_nonneg_of_nonpos_of_nonpos p2 p3
            simp at hdet
            omega
        have : 1 * x.natAbs ≤ D.natAbs * x.natAbs := Nat.mul_le_mul_right _ (by omega)
        omega
      · have hC : 0 < C := by
          rcases Int.lt_or_le 0 C with g | g
          · exact g
          · have : C = 0 := by omega
            subst this
            have : 0 ≤ A * D := Int.mul_nonneg_of_nonpos_of_nonpos p1 p4
            simp at hdet
            omega
        have : 1 * x.natAbs ≤ C.natAbs * x.natAbs := Nat.mul_le_mul_right _ (by omega)
        have n4 : (s * y0).natAbs = y0.natAbs := by rw [e]; simp
        rw [n4] at u2
        omega
  have h1 := li.nA
  have h2 := li.nB
  have h3 := li.nC
  have h4 := li.nD
  rcases hst with ⟨rfl, rfl, rfl, rfl, -, -⟩ | ⟨-, -, b1, b2, b3, b4⟩ <;> omega

/-- Bounds of a step. -/
theorem LS.qbounds {x0 y0 A B C D x y q : Int} (h : LS x0 y0 A B C D x y) (h' : LS x0 y0 C D (A - q * C) (B - q * D) y (x - q * y)) (hx1 : x0 < 1152921504606846976) (hy0 : 0 ≤ y0) (hyx0 : y0 ≤ x0) :
    -8589934592 < q * C ∧ q * C < 8589934592 ∧ -8589934592 < q * D ∧ q * D < 8589934592 ∧ 0 ≤ q * y + x ∧ q * y ≤ x := by
  have a := h.bounds hx1 hy0 hyx0
  have b := h'.bounds hx1 hy0 hyx0
  omega

/-- Both sums are greater than 0 where the loop goes on; then y is. -/
theorem LS.ypos {x0 y0 A B C D x y : Int} (h : LS x0 y0 A B C D x y) (hC : y + C ≠ 0) (hD : y + D ≠ 0) : 0 < y + C ∧ 0 < y + D ∧ 0 < y := by
  obtain ⟨⟨s, li⟩, hy, -, -⟩ := h
  have h3 := li.nC
  have h4 := li.nD
  rcases li.pat with ⟨e, p1, p2, p3, p4⟩ | ⟨e, p1, p2, p3, p4⟩ <;> omega

/-- What the factors are worth at the end. -/
def FacOk (a b A B C D : Int) : Prop :=
  B = 0 ∨ (((0 ≤ A ∧ B ≤ 0 ∧ C ≤ 0 ∧ 0 ≤ D) ∨ (A ≤ 0 ∧ 0 ≤ B ∧ 0 ≤ C ∧ D ≤ 0)) ∧ A.natAbs < 2147483648 ∧ B.natAbs < 2147483648 ∧ C.natAbs < 2147483648 ∧ D.natAbs < 2147483648 ∧
    0 ≤ C * a + D * b ∧ C * a + D * b < A * a + B * b ∧ A * a + B * b ≤ b ∧ Int.gcd (A * a + B * b) (C * a + D * b) = Int.gcd a b)

/-- The state, with what it makes of the numbers themselves. -/
structure LT (a b x0 y0 A B C D x y : Int) : Prop where
  ls : LS x0 y0 A B C D x y
  fac : (A = 1 ∧ B = 0 ∧ C = 0 ∧ D = 1) ∨ (0 ≤ C * a + D * b ∧ C * a + D * b < A * a + B * b ∧ A * a + B * b ≤ b)

theorem LT.ok {a b x0 y0 A B C D x y : Int} (h : LT a b x0 y0 A B C D x y) : FacOk a b A B C D := by
  obtain ⟨⟨⟨s, li⟩, hy, hyx, hst⟩, hf⟩ := h
  rcases hf with ⟨-, e, -⟩ | ⟨f1, f2, f3⟩
  · exact Or.inl e
  · rcases hst with ⟨-, e, -⟩ | ⟨-, -, b1, b2, b3, b4⟩
    · exact Or.inl e
    · refine Or.inr ⟨?_, b1, b2, b3, b4, f1, f2, f3, li.gcd a b⟩
      rcases li.pat with ⟨-, p⟩ | ⟨-, p⟩
      · exact Or.inl p
      · exact Or.inr p

theorem LT.step {a b x0 y0 A B C D x y q P al be : Int} (h : LT a b x0 y0 A B C D x y) (hx0 : 576460752303423488 ≤ x0) (hx1 : x0 < 1152921504606846976) (hy0 : 0 ≤ y0) (hyx0 : y0 ≤ x0) (hC : 0 < y + C) (hD : 0 < y + D)
    (h1 : q * (y + C) ≤ x + A) (h2 : x + A < q * (y + C) + (y + C)) (h3 : q * (y + D) ≤ x + B) (h4 : x + B < q * (y + D) + (y + D)) (hq : 0 ≤ q)
    (ha : a = x0 * P + al) (hb : b = y0 * P + be) (a1 : 0 ≤ al) (a2 : al < P) (a3 : 0 ≤ be) (a4 : be < P) :
    LT a b x0 y0 C D (A - q * C) (B - q * D) y (x - q * y) ∧ x - q * y < y := by
  obtain ⟨ls', hlt, k1, k2⟩ := h.ls.step hx0 hx1 hy0 hyx0 hC hD h1 h2 h3 h4 hq
  refine ⟨⟨ls', Or.inr ?_⟩, hlt⟩
  obtain ⟨s', li'⟩ := ls'.li
  obtain ⟨r1, -, r3⟩ := li'.rest ha hb a1 (by omega) a3 (by omega) k1 k2
  refine ⟨r1, r3 (by omega), ?_⟩
  rcases h.fac with ⟨-, -, rfl, rfl⟩ | ⟨f1, f2, f3⟩
  · omega
  · omega

/-- The quotient of two numbers in 64 bits, of which the second is greater than 0. -/
theorem quo_bounds {u v : Int} (hv : 0 < v) (hu : 0 ≤ u) : u.tdiv v * v ≤ u ∧ u < u.tdiv v * v + v ∧ 0 ≤ u.tdiv v ∧ u.tdiv v ≤ u := by
  rw [Int.tdiv_eq_ediv_of_nonneg hu]
  have e := Int.mul_ediv_add_emod u v
  have m0 := Int.emod_nonneg u (by omega : v ≠ 0)
  have m1 := Int.emod_lt_of_pos u hv
  rw [Int.mul_comm] at e
  refine ⟨by omega, by omega, Int.ediv_nonneg hu (by omega), Int.ediv_le_self v hu⟩

end Go.Proofs.Ytfhmhkbjcccejaa

namespace Go.Proofs.Ytfhmhkbjcccejaa
open Go.RowKit

/-- exact.digits.bits, of a number of more than two digits. -/
theorem bits_any (A : Option Addr) (n c : Nat) (f : Nat → Nat) (w : World) (hn : n ≤ 1000000) (h2 : 2 < n) (hA : Dg w A n f) (hf : ∀ i, i < n → f i < W) (hfn : Nrm f n) :
    ∃ r : Nat, 64 < r ∧ r ≤ 32 * n ∧ 2 ^ (r - 1) ≤ V f n ∧ V f n < 2 ^ r ∧ Calls Try.prog 110 #[.slice A n c] w fun e w' => e = .returned (.int .i64 (r : Int)) ∧ w = w' := by
  obtain ⟨k, rfl⟩ : ∃ k, n = k + 1 := ⟨n - 1, by omega⟩
  have hy0 : 0 < f k := by
    rcases hfn with h | h
    · omega
    · simp only [Nat.add_sub_cancel] at h; omega
  have hy1 : f k < 4294967296 := hf k (by omega)
  have hL : Lib.bitLen (f k) = Lib.bitLenAux 32 (f k) := Lib.bitLenAux_fuel 32 (f k) hy1 64 (by omega)
  obtain ⟨a1, a2, a3, a4⟩ := bitLen_bounds 32 (f k) hy0 hy1
  generalize hl : Lib.bitLenAux 32 (f k) = L at a1 a2 a3 a4
  have hVk : V f k < W ^ k := V_lt fun i hi => hf i (by omega)
  have eW : W ^ k = 2 ^ (32 * k) := by rw [show W = 2 ^ 32 from rfl, ← Nat.pow_mul]
  refine ⟨32 * k + L, by omega, by omega, ?_, ?_, ?_⟩
  · rw [V_succ, eW, show 32 * k + L - 1 = (L - 1) + 32 * k from by omega, Nat.pow_add]
    have := Nat.mul_le_mul_right (2 ^ (32 * k)) a3
    omega
  · rw [V_succ, eW, Nat.add_comm (32 * k) L, Nat.pow_add]
    have : (f k + 1) * 2 ^ (32 * k) ≤ 2 ^ L * 2 ^ (32 * k) := Nat.mul_le_mul_right _ a4
    rw [Nat.add_mul, Nat.one_mul] at this
    omega
  · obtain ⟨b, off, rfl, hb, hcells⟩ := hA (by omega)
    have hcell := hcells k (by omega)
    have HB : Hid (∀ wx, Calls Try.prog 116 #[.int .u32 ((f k : Nat) : Int)] wx fun e w' => e = .returned (.int .i64 (L : Int)) ∧ w' = wx) := fun wx => by
      have := Try.bits_Len32 ((f k : Nat) : Int) wx (by omega) (by omega)
      rw [Int.toNat_natCast, hL, hl] at this
      exact this
    have e1 : ((k + 1 : Nat) : Int) - 1 = (k : Int) := by omega
    clear hcells hVk eW a3 a4 hL hl hfn hf
    go_enter Try.func110, Try.ntmps110
    go_wp2_with fail
    (with_reducible refine (HB.out _).mono ?_)
    rintro e w' ⟨rfl, rfl⟩
    go_wp2_with fail
    go_ret
    exact ⟨by rw [show ((32 * k + L : Nat) : Int) = 32 * (k : Int) + (L : Int) from by omega]; rfl, rfl⟩

/-- exact.digits.window. -/
theorem window_any (A : Option Addr) (n c cut i s X : Nat) (f : Nat → Nat) (w : World) (hn : n ≤ 1000000) (hs : s < 32) (hi : i ≤ 999999) (hA : Dg w A n f) (hf : ∀ i, i < n → f i < W) (hcut : cut = 32 * i + s) (hX : X = V f n / 2 ^ cut) (hlt : X < 1152921504606846976) :
    Calls Try.prog 111 #[.slice A n c, .int .i64 (cut : Int)] w fun e w' => e = .returned (.int .i64 (X : Int)) ∧ Drn w w' := by
  rw [hcut] at hX
  have eW : (2 : Nat) ^ (32 * i) = W ^ i := by rw [show W = 2 ^ 32 from rfl, ← Nat.pow_mul]
  have hVX : V f n / 2 ^ (32 * i + s) = V f n / W ^ i / 2 ^ s := by rw [Nat.pow_add, eW, Nat.div_div_eq_div_mul]
  have h3 : V f n / W ^ i < W ^ 3 := by
    have h1 : V f n / W ^ i < (X + 1) * 2 ^ s := by
      rw [hVX] at hX
      have := Nat.lt_mul_div_succ (V f n / W ^ i) (two_pow_pos s)
      rw [← hX, Nat.mul_comm] at this
      exact this
    have h2 : (X + 1) * 2 ^ s ≤ 1152921504606846976 * 2147483648 := Nat.mul_le_mul (by omega) (two_pow_le s hs)
    have h4 : W ^ 3 = 79228162514264337593543950336 := by rw [W_eq]
    omega
  have hV := V_three hf h3
  obtain ⟨L, hL⟩ : ∃ L, L = ext f n (i + 1) * 4294967296 + ext f n i := ⟨_, rfl⟩
  have b0 := ext_lt hf i
  have b1 := ext_lt hf (i + 1)
  have b2 := ext_lt hf (i + 2)
  have HW := Lib.hid (window_val (l := L) (hi := ext f n (i + 2)) (X := X) (s := s) hs (by omega) b2 (by rw [hX, hVX, hV, hL, W_eq]; congr 1; omega) hlt).1
  have HL : Hid (bits BinOp.or IntKind.u64 ((ext f n i : Nat) : Int) (((ext f n (i + 1) : Nat) : Int) * 4294967296) = (L : Int)) := by
    show _ = _
    have e : ((ext f n (i + 1) : Nat) : Int) * 4294967296 = ((ext f n (i + 1) * 4294967296 : Nat) : Int) := by omega
    rw [e, u64_or_nat _ _ (by omega) (by omega), Nat.or_comm, nat_join 32 _ _ (by omega) (by omega), hL]
  have HX := Lib.hid hlt
  have HA := Lib.hid hA
  clear hX hVX h3 hV hL eW hlt hA
  generalize he0 : ext f n i = d0 at *
  generalize he1 : ext f n (i + 1) = d1 at *
  generalize he2 : ext f n (i + 2) = d2 at *
  have C0 : Hid (∀ wx, Drn w wx → Calls Try.prog 108 #[.slice A n c, .int .i64 ((i : Nat) : Int)] wx fun e w' => e = .returned (.int .u32 (d0 : Int)) ∧ wx = w') := fun wx hx => by
    have := at_any A n c f ((i : Nat) : Int) wx (by omega) (by omega) hn (hx.dg HA.out)
    rw [Int.toNat_natCast, he0] at this
    exact this
  have C1 : Hid (∀ wx, Drn w wx → Calls Try.prog 108 #[.slice A n c, .int .i64 ((i : Nat) + 1 : Int)] wx fun e w' => e = .returned (.int .u32 (d1 : Int)) ∧ wx = w') := fun wx hx => by
    have := at_any A n c f ((i : Nat) + 1 : Int) wx (by omega) (by omega) hn (hx.dg HA.out)
    rw [show ((i : Int) + 1).toNat = i + 1 from by omega, he1] at this
    exact this
  have C2 : Hid (∀ wx, Drn w wx → Calls Try.prog 108 #[.slice A n c, .int .i64 ((i : Nat) + 2 : Int)] wx fun e w' => e = .returned (.int .u32 (d2 : Int)) ∧ wx = w') := fun wx hx => by
    have := at_any A n c f ((i : Nat) + 2 : Int) wx (by omega) (by omega) hn (hx.dg HA.out)
    rw [show ((i : Int) + 2).toNat = i + 2 from by omega, he2] at this
    exact this
  clear he0 he1 he2 hf
  have q3 : (cut : Int) / 32 = (i : Int) := by omega
  have q4 : (cut : Int) % 32 = (s : Int) := by omega
  clear hcut
  go_enter Try.func111, Try.ntmps111
  go_wp2_with fail
  (with_reducible refine (C0.out _ (Drn.refl _)).mono ?_)
  rintro e w' ⟨rfl, rfl⟩
  go_wp2_with fail
  (with_reducible refine (C1.out _ (Drn.refl _)).mono ?_)
  rintro e w' ⟨rfl, rfl⟩
  go_wp2_with fail
  (with_reducible refine (C2.out _ (Drn.refl _)).mono ?_)
  rintro e w' ⟨rfl, rfl⟩
  go_wp2_with fail
  go_quiet (fail)
  go_wp2_with fail
  go_ret
  refine ⟨?_, (Drn.refl _).more _⟩
  show Ending.returned (Value.int .i64 (wrap64 (bits .or .u64 (bits .or .u64 (d0 : Int) ((d1 : Int) * 4294967296) / 2 ^ s) (IntKind.u64.wrap ((d2 : Int) * 2 ^ (64 - s)))))) = _
  rw [HL.out, HW.out]
  have h := HX.out
  rw [show wrap64 (X : Int) = (X : Int) from by unfold wrap64; omega]

/-- A box of four factors. -/
structure FB (g : Nat) (a b c d : Int) (w : World) : Prop where
  c0 : w.cell? ⟨g, 0, none⟩ = some (.int .i64 a)
  c1 : w.cell? ⟨g, 1, none⟩ = some (.int .i64 b)
  c2 : w.cell? ⟨g, 2, none⟩ = some (.int .i64 c)
  c3 : w.cell? ⟨g, 3, none⟩ = some (.int .i64 d)
  f0 : w.frozen? ⟨g, 0, none⟩ = false
  f1 : w.frozen? ⟨g, 1, none⟩ = false
  f2 : w.frozen? ⟨g, 2, none⟩ = false
  f3 : w.frozen? ⟨g, 3, none⟩ = false
  lt : g < w.heap.size
theorem FB.keep {g : Nat} {a b c d : Int} {w w' : World} (h : FB g a b c d w) (hB : Below w.heap.size w w') : FB g a b c d w' :=
  ⟨(hB.cell (p := ⟨g, 0, none⟩) h.lt).trans h.c0, (hB.cell (p := ⟨g, 1, none⟩) h.lt).trans h.c1, (hB.cell (p := ⟨g, 2, none⟩) h.lt).trans h.c2, (hB.cell (p := ⟨g, 3, none⟩) h.lt).trans h.c3,
    (hB.frozen (p := ⟨g, 0, none⟩) h.lt).trans h.f0, (hB.frozen (p := ⟨g, 1, none⟩) h.lt).trans h.f1, (hB.frozen (p := ⟨g, 2, none⟩) h.lt).trans h.f2, (hB.frozen (p := ⟨g, 3, none⟩) h.lt).trans h.f3, Nat.lt_of_lt_of_le h.lt hB.size⟩
theorem FB.new (w : World) (a b c d : Int) (T : Nat) {g : Nat} (hg : g = w.heap.size) : FB g a b c d (w.alloc (.cells #[.int .i64 a, .int .i64 b, .int .i64 c, .int .i64 d] T)) := by
  subst hg
  refine ⟨?_, ?_, ?_, ?_, ?_, ?_, ?_, ?_, ?_⟩ <;> simp [go_sem]
theorem FB.set {g : Nat} {a b c d : Int} {w : World} (h : FB g a b c d w) (p q r u : Int) : FB g p q r u ((((w.setCell ⟨g, 0, none⟩ (.int .i64 p)).setCell ⟨g, 1, none⟩ (.int .i64 q)).setCell ⟨g, 2, none⟩ (.int .i64 r)).setCell ⟨g, 3, none⟩ (.int .i64 u)) := by
  obtain ⟨c0, c1, c2, c3, f0, f1, f2, f3, hl⟩ := h
  refine ⟨?_, ?_, ?_, ?_, ?_, ?_, ?_, ?_, ?_⟩
  any_goals simp [go_sem, c0, c1, c2, c3, f0, f1, f2, f3]
  simpa [World.setCell] using hl
theorem FB.far {g k : Nat} {a b c d : Int} {w : World} (h : FB g a b c d w) (hk : g ≠ k) (o : Nat) (u : Value) : FB g a b c d (w.setCell ⟨k, o, none⟩ u) := by
  obtain ⟨c0, c1, c2, c3, f0, f1, f2, f3, hl⟩ := h
  refine ⟨?_, ?_, ?_, ?_, ?_, ?_, ?_, ?_, ?_⟩
  any_goals simp [go_sem, c0, c1, c2, c3, f0, f1, f2, f3]
  simpa [World.setCell] using hl

end Go.Proofs.Ytfhmhkbjcccejaa

namespace Go.Proofs.Ytfhmhkbjcccejaa
open Go.RowKit

/-- What Lehmer's steps return. -/
def RetF (a b : Int) (w : World) (e : Ending) (w' : World) : Prop :=
  ∃ A B C D : Int, e = .returned (.agg #[.int .i64 A, .int .i64 B, .int .i64 C, .int .i64 D]) ∧ FacOk a b A B C D ∧ Below w.heap.size w w'

/-- The state of the loop. -/
def LeadRel (w : World) (g : Nat) (a b x0 y0 : Int) (s t : Value) (wr : World) : Prop :=
  ∃ A B C D x y : Int, s = .int .i64 x ∧ t = .int .i64 y ∧ Hid (LT a b x0 y0 A B C D x y) ∧ FB w.heap.size 0 0 0 0 wr ∧ FB g A B C D wr ∧ Hid (Below w.heap.size w wr)

set_option maxRecDepth 100000 in
set_option maxHeartbeats 4000000 in
theorem leading_any (A B : Option Addr) (n m ca cb : Nat) (f g : Nat → Nat) (w : World) (hn : n ≤ 999999) (hm : 2 < m) (hmn : m ≤ n) (hA : Dg w A n f) (hB : Dg w B m g)
    (hf : ∀ i, i < n → f i < W) (hg : ∀ i, i < m → g i < W) (hfn : Nrm f n) (hle : V g m ≤ V f n) :
    Calls Try.prog 101 #[.slice A n ca, .slice B m cb] w (RetF ((V f n : Nat) : Int) ((V g m : Nat) : Int) w) := by
  obtain ⟨r, r1, r2, r3, r4, -⟩ := bits_any A n ca f w (by omega) (by omega) hA hf hfn
  obtain ⟨cut, hcut⟩ : ∃ cut, cut = r - 60 := ⟨_, rfl⟩
  have HBt : Hid (∀ wx, Below w.heap.size w wx → Calls Try.prog 110 #[.slice A n ca] wx fun e w' => e = .returned (.int .i64 ((cut : Int) + 60)) ∧ wx = w') := fun wx hx => by
    obtain ⟨r', q1, q2, q3, q4, q5⟩ := bits_any A n ca f wx (by omega) (by omega) (hA.keep hx) hf hfn
    have e : r' = r := by
      have h1 : r - 1 < r' := (Nat.pow_lt_pow_iff_right (by omega : 1 < 2)).1 (Nat.lt_of_le_of_lt r3 q4)
      have h2 : r' - 1 < r := (Nat.pow_lt_pow_iff_right (by omega : 1 < 2)).1 (Nat.lt_of_le_of_lt q3 r4)
      omega
    subst e
    rw [show (cut : Int) + 60 = (r' : Int) from by omega]
    exact q5
  obtain ⟨P, hP⟩ : ∃ P, P = 2 ^ cut := ⟨_, rfl⟩
  have hP0 : 0 < P := by rw [hP]; exact two_pow_pos cut
  obtain ⟨X, hX⟩ : ∃ X, X = V f n / P := ⟨_, rfl⟩
  obtain ⟨Y, hY⟩ : ∃ Y, Y = V g m / P := ⟨_, rfl⟩
  have hX1 : X < 1152921504606846976 := by
    rw [hX, Nat.div_lt_iff_lt_mul hP0, hP, show (1152921504606846976 : Nat) = 2 ^ 60 from rfl, ← Nat.pow_add, show 60 + cut = r from by omega]
    exact r4
  have hX0 : 576460752303423488 ≤ X := by
    rw [hX, Nat.le_div_iff_mul_le hP0, hP, show (576460752303423488 : Nat) = 2 ^ 59 from rfl, ← Nat.pow_add, show 59 + cut = r - 1 from by omega]
    exact r3
  have hYX : Y ≤ X := by rw [hX, hY]; exact Nat.div_le_div_right hle
  have HWa : Hid (∀ wx, Below w.heap.size w wx → Calls Try.prog 111 #[.slice A n ca, .int .i64 (cut : Int)] wx fun e w' => e = .returned (.int .i64 (X : Int)) ∧ Drn wx w') := fun wx hx =>
    window_any A n ca cut (cut / 32) (cut % 32) X f wx (by omega) (by omega) (by omega) (hA.keep hx) hf (by omega) (by rw [hX, hP]) hX1
  have HWb : Hid (∀ wx, Below w.heap.size w wx → Calls Try.prog 111 #[.slice B m cb, .int .i64 (cut : Int)] wx fun e w' => e = .returned (.int .i64 (Y : Int)) ∧ Drn wx w') := fun wx hx =>
    window_any B m cb cut (cut / 32) (cut % 32) Y g wx (by omega) (by omega) (by omega) (hB.keep hx) hg (by omega) (by rw [hY, hP]) (by omega)
  have ha : ((V f n : Nat) : Int) = (X : Int) * (P : Int) + ((V f n % P : Nat) : Int) := by
    have := Nat.div_add_mod (V f n) P
    rw [← hX, Nat.mul_comm] at this
    rw [← Int.natCast_mul, ← Int.natCast_add, this]
  have hb : ((V g m : Nat) : Int) = (Y : Int) * (P : Int) + ((V g m % P : Nat) : Int) := by
    have := Nat.div_add_mod (V g m) P
    rw [← hY, Nat.mul_comm] at this
    rw [← Int.natCast_mul, ← Int.natCast_add, this]
  have ma := Nat.mod_lt (V f n) hP0
  have mb := Nat.mod_lt (V g m) hP0
  have hcb : cut ≤ 40000000 := by omega
  generalize ((V f n : Nat) : Int) = a at *
  generalize ((V g m : Nat) : Int) = b at *
  have HST : Hid (∀ A B C D x y q : Int, LT a b X Y A B C D x y → 0 < y + C → 0 < y + D → q * (y + C) ≤ x + A → x + A < q * (y + C) + (y + C) → q * (y + D) ≤ x + B → x + B < q * (y + D) + (y + D) → 0 ≤ q →
      LT a b X Y C D (A - q * C) (B - q * D) y (x - q * y) ∧ x - q * y < y) := fun A B C D x y q h1 h2 h3 h4 h5 h6 h7 h8 =>
    h1.step (by omega) (by omega) (by omega) (by omega) h2 h3 h4 h5 h6 h7 h8 ha hb (by omega) (by omega) (by omega) (by omega)
  have HBD : Hid (∀ A B C D x y : Int, LS X Y A B C D x y → 0 ≤ y ∧ y ≤ x ∧ x < 1152921504606846976 ∧ -2147483648 < A ∧ A < 2147483648 ∧ -2147483648 < B ∧ B < 2147483648 ∧ -2147483648 < C ∧ C < 2147483648 ∧ -2147483648 < D ∧ D < 2147483648 ∧ 0 ≤ x + A ∧ 0 ≤ x + B ∧ 0 ≤ y + C ∧ 0 ≤ y + D) := fun A B C D x y h =>
    h.bounds (by omega) (by omega) (by omega)
  have HS0 : Hid (LT a b X Y 1 0 0 1 X Y) := ⟨LS.start (by omega) (by omega), Or.inl ⟨rfl, rfl, rfl, rfl⟩⟩
  clear ha hb ma mb hX hY hP hP0 hX0 hX1 hYX r1 r2 r3 r4 hcut hle hfn hf hg
  go_enter Try.func101, Try.ntmps101
  go_wp2_with fail
  (with_reducible refine (HBt.out _ (below_alloc _ _)).mono ?_)
  rintro e w1 ⟨rfl, rfl⟩
  go_wp2_with fail
  (with_reducible refine (HWa.out _ (below_alloc _ _)).mono ?_)
  rintro e w1 ⟨rfl, hd1⟩
  have F1 := (FB.new w 0 0 0 0 114 rfl).keep (hd1.below _)
  have HB1 := Lib.hid ((below_alloc w (.cells #[.int .i64 0, .int .i64 0, .int .i64 0, .int .i64 0] 114)).trans (hd1.below _))
  clear hd1
  go_wp2_with fail
  (with_reducible refine (HWb.out _ HB1.out).mono ?_)
  rintro e w2 ⟨rfl, hd2⟩
  have F2 := F1.keep (hd2.below _)
  have HB2 := Lib.hid (HB1.out.trans (hd2.below _))
  have hne : w.heap.size ≠ w2.heap.size := by have := F2.lt; omega
  have hlw : w.heap.size ≤ w2.heap.size := HB2.out.size
  clear hd2 F1 HB1
  go_wp2_with fail
  generalize hg0 : w2.heap.size = g0 at *
  go_loopw [6, 7] (fun s t wr => LeadRel w g0 a b X Y s t wr) (fun _ t _ => (intOf t).toNat)
  case atStart => exact ⟨1, 0, 0, 1, X, Y, rfl, rfl, HS0, F2.keep (below_alloc _ _), FB.new w2 1 0 0 1 114 hg0.symm, Lib.hid (HB2.out.alloc HB2.out.size _)⟩
  case round =>
    obtain ⟨A', B', C', D', x, y, rfl, rfl, hlt, FR, FG, hbel⟩ := hrel
    have hbd := HBD.out _ _ _ _ _ _ hlt.out.ls
    obtain ⟨b1, b2, b3, b4, b5, b6, b7, b8, b9, b10, b11, b12, b13, b14, b15⟩ := hbd
    have HFR := Lib.hid FR
    have HFG := Lib.hid FG
    obtain ⟨r0, r1, r2, r3, rf0, rf1, rf2, rf3, rlt⟩ := FR
    obtain ⟨c0, c1, c2, c3, cf0, cf1, cf2, cf3, clt⟩ := FG
    by_cases z1 : y + C' = 0
    · have z1' : (y + C' != 0) = false := by simp [z1]
      clear F2 HB2 HS0 HST HBD HWa HWb HBt
      go_wp2_with fail
      exact bodyPost_ret (v := .agg #[.int .i64 A', .int .i64 B', .int .i64 C', .int .i64 D']) (by simp [results, Try.results101, go_sem, r0, r1, r2, r3]) rfl
        ⟨A', B', C', D', rfl, hlt.out.ok, (((hbel.out.setCell (Nat.le_refl _) _).setCell (Nat.le_refl _) _).setCell (Nat.le_refl _) _).setCell (Nat.le_refl _) _⟩
    · have z1' : (y + C' != 0) = true := by simp [z1]
      by_cases z2 : y + D' = 0
      · have z2' : (y + D' != 0) = false := by simp [z2]
        clear F2 HB2 HS0 HST HBD HWa HWb HBt
        go_wp2_with fail
        exact bodyPost_ret (v := .agg #[.int .i64 A', .int .i64 B', .int .i64 C', .int .i64 D']) (by simp [results, Try.results101, go_sem, r0, r1, r2, r3]) rfl
          ⟨A', B', C', D', rfl, hlt.out.ok, (((hbel.out.setCell (Nat.le_refl _) _).setCell (Nat.le_refl _) _).setCell (Nat.le_refl _) _).setCell (Nat.le_refl _) _⟩
      · have z2' : (y + D' != 0) = true := by simp [z2]
        obtain ⟨p1, p2, p3⟩ := hlt.out.ls.ypos z1 z2
        have hq1 := quo_bounds p1 b12
        have hq2 := quo_bounds p2 b13
        rw [Int.tdiv_eq_ediv_of_nonneg b12] at hq1
        rw [Int.tdiv_eq_ediv_of_nonneg b13] at hq2
        obtain ⟨q, hq⟩ : ∃ q, (x + A') / (y + C') = q := ⟨_, rfl⟩
        obtain ⟨q', hq'⟩ : ∃ q', (x + B') / (y + D') = q' := ⟨_, rfl⟩
        rw [hq] at hq1
        rw [hq'] at hq2
        obtain ⟨e1, e2, e3, e4⟩ := hq1
        obtain ⟨g1, g2, g3, g4⟩ := hq2
        have E := Lib.hid (And.intro e1 e2)
        have G := Lib.hid (And.intro g1 g2)
        clear e1 e2 g1 g2 F2 HB2 HS0 HWa HWb HBt
        by_cases hqq : q = q'
        · subst hqq
          obtain ⟨hl', hy'⟩ := HST.out _ _ _ _ _ _ q hlt.out p1 p2 E.out.1 E.out.2 G.out.1 G.out.2 e3
          have hbd' := HBD.out _ _ _ _ _ _ hl'.ls
          clear HST HBD E G
          have hqb : (q != q) = false := by simp
          obtain ⟨m1, hm1⟩ : ∃ m1, q * C' = m1 := ⟨_, rfl⟩
          obtain ⟨m2, hm2⟩ : ∃ m2, q * D' = m2 := ⟨_, rfl⟩
          obtain ⟨m3, hm3⟩ : ∃ m3, q * y = m3 := ⟨_, rfl⟩
          rw [hm1, hm2, hm3] at hbd' hl'
          have HL := Lib.hid hl'
          clear hl'
          rw [hm3] at hy'
          obtain ⟨d1, d2, d3, d4, d5, d6, d7, d8, d9, d10, d11, d12, d13, d14, d15⟩ := hbd'
          go_wp2_with fail
          exact ⟨⟨C', D', A' - m1, B' - m2, y, x - m3, rfl, rfl, HL, (((HFR.out.far hne _ _).far hne _ _).far hne _ _).far hne _ _, HFG.out.set _ _ _ _, Lib.hid ((((hbel.out.setCell hlw _).setCell hlw _).setCell hlw _).setCell hlw _)⟩, by simp only [intOf]; omega⟩
        · have hqb : (q != q') = true := by simp [hqq]
          clear HST HBD E G
          go_wp2_with fail
          exact bodyPost_ret (v := .agg #[.int .i64 A', .int .i64 B', .int .i64 C', .int .i64 D']) (by simp [results, Try.results101, go_sem, r0, r1, r2, r3]) rfl
            ⟨A', B', C', D', rfl, hlt.out.ok, (((hbel.out.setCell (Nat.le_refl _) _).setCell (Nat.le_refl _) _).setCell (Nat.le_refl _) _).setCell (Nat.le_refl _) _⟩

end Go.Proofs.Ytfhmhkbjcccejaa

namespace Go.Proofs.Ytfhmhkbjcccejaa
open Go.RowKit

theorem stepB' {X wb w' : World} (h : Below X.heap.size X wb) (k : Below wb.heap.size wb w') : Below X.heap.size X w' := below_trans_same h k

theorem D.uniq {w : World} {v : Value} {x y : Nat} (h : D w v x) (h' : D w v y) : x = y := by
  obtain ⟨A, n, c, f, rfl, h2, h3, h4, h5, h6, h7⟩ := h
  obtain ⟨A', n', c', g, e, k2, k3, k4, k5, k6, k7⟩ := h'
  injection e with e1 e2 e3
  subst e1 e2 e3
  rw [← h5, ← k5]
  refine V_congr fun i hi => ?_
  obtain ⟨b, off, e, -, hc⟩ := h6 (by omega)
  obtain ⟨b', off', e', -, kc⟩ := k6 (by omega)
  rw [e] at e'
  injection e' with e'
  injection e' with e1 e2
  subst e1 e2
  have q := (hc i hi).symm.trans (kc i hi)
  injection q with q
  injection q with q1 q2
  omega

/-- What a slice holds, as a function of the world. -/
theorem d_size : ∃ F : Value → World → Nat, ∀ v w x, D w v x → F v w = x := by
  classical
  refine ⟨fun v w => if h : ∃ x, D w v x then Classical.choose h else 0, fun v w x hx => ?_⟩
  have h : ∃ x, D w v x := ⟨x, hx⟩
  show dite _ _ _ = _
  rw [dif_pos h]
  exact (Classical.choose_spec h).uniq hx

/-- The state of the loop. -/
def GcdRel (w : World) (N G : Nat) (s t : Value) (wr : World) : Prop :=
  ∃ x y : Nat, Hid (D wr s x) ∧ Hid (D wr t y) ∧ Hid (y ≤ x) ∧ Hid (x < W ^ N) ∧ Hid (Nat.gcd x y = G) ∧ Hid (Below w.heap.size w wr)

/-- The loop, behind the exchange. -/
theorem gcd_round {x y : Nat} {A B C D' : Int} (h : FacOk (x : Int) (y : Int) A B C D') (hB : B ≠ 0) :
    CombOk A B ∧ CombOk C D' ∧ ∃ r r' : Nat, A * (x : Int) + B * (y : Int) = (r : Int) ∧ C * (x : Int) + D' * (y : Int) = (r' : Int) ∧ r' < r ∧ r ≤ y ∧ Nat.gcd r r' = Nat.gcd x y := by
  rcases h with h | ⟨p, b1, b2, b3, b4, h1, h2, h3, h4⟩
  · exact absurd h hB
  · have ok1 : CombOk A B := ⟨by omega, by omega, by omega, by omega, by omega⟩
    have ok2 : CombOk C D' := ⟨by omega, by omega, by omega, by omega, by omega⟩
    obtain ⟨r, hr⟩ := Int.eq_ofNat_of_zero_le (show 0 ≤ A * (x : Int) + B * (y : Int) by omega)
    obtain ⟨r', hr'⟩ := Int.eq_ofNat_of_zero_le h1
    rw [hr, hr'] at h4
    refine ⟨ok1, ok2, r, r', hr, hr', by omega, by omega, ?_⟩
    exact h4

theorem D.tt' {w : World} {A : Option Addr} {n c x : Nat} (h : D w (.slice A n c) x) : TT w A n := by
  obtain ⟨A', n', c', f, e, h1, h2, h3, h4, h5, h6⟩ := h
  injection e with e1 e2 e3
  subst e1 e2 e3
  exact h6

theorem D.long {w : World} {A : Option Addr} {n c x : Nat} (h : D w (.slice A n c) x) (hn : 0 < n) : W ^ (n - 1) ≤ x := by
  obtain ⟨f, h1, h2, h3, h4, h5⟩ := h.open_
  rw [← h4]; exact V_pos hn h3

theorem D.lens {w : World} {A B : Option Addr} {n c m d x y : Nat} (h : D w (.slice A n c) x) (h' : D w (.slice B m d) y) (hle : y ≤ x) : m ≤ n := by
  obtain ⟨f, f1, f2, f3, f4, f5⟩ := h.open_
  refine h'.len ?_
  have := V_lt f2
  omega

theorem leadD_any (A B : Option Addr) (n m ca cb x y : Nat) (w : World) (h1 : D w (.slice A n ca) x) (h2 : D w (.slice B m cb) y) (hn : n ≤ 999999) (hm : 2 < m) (hle : y ≤ x) :
    Calls Try.prog 101 #[.slice A n ca, .slice B m cb] w (RetF (x : Int) (y : Int) w) := by
  have hmn := h1.lens h2 hle
  obtain ⟨f, f1, f2, f3, f4, f5⟩ := h1.open_
  obtain ⟨g, g1, g2, g3, g4, g5⟩ := h2.open_
  have := leading_any A B n m ca cb f g w hn hm hmn f5 g5 f2 g2 f3 (by rw [f4, g4]; exact hle)
  rw [f4, g4] at this
  exact this

theorem combD_any (A B : Option Addr) (n m ca cb x y r : Nat) (X Y : Int) (w : World) (h1 : D w (.slice A n ca) x) (h2 : D w (.slice B m cb) y) (hn : n ≤ 999999) (hle : y ≤ x) (hok : CombOk X Y) (hR : X * (x : Int) + Y * (y : Int) = (r : Int)) (hr : r ≤ x) :
    Calls Try.prog 103 #[.slice A n ca, .slice B m cb, .int .i64 X, .int .i64 Y] w (RetD r w) := by
  have hmn := h1.lens h2 hle
  have hp : x < W ^ n := by
    obtain ⟨f, f1, f2, f3, f4, f5⟩ := h1.open_
    rw [← f4]; exact V_lt f2
  obtain ⟨f, f1, f2, f3, f4, f5⟩ := h1.open_
  obtain ⟨g, g1, g2, g3, g4, g5⟩ := h2.open_
  exact combine_any A B n m ca cb f g X Y (r : Int) w (by omega) hmn f5 g5 f2 g2 hok (by rw [f4, g4]; exact hR) (by omega) (by omega)

theorem divideD' (A B : Option Addr) (n m c d x y : Nat) (w : World) (h1 : D w (.slice A n c) x) (h2 : D w (.slice B m d) y) (hn : n ≤ 999999) (hy : 0 < y) :
    Calls Try.prog 102 #[.slice A n c, .slice B m d] w (RetDiv x y w) := by
  obtain ⟨f, f1, f2, f3, f4, f5⟩ := h1.open_
  obtain ⟨g, g1, g2, g3, g4, g5⟩ := h2.open_
  rw [← f4, ← g4]
  exact divide_any A B n m c d f g w hn f1 f5 g5 f2 g2 f3 g3 h1.tt' (by rw [g4]; exact hy)

theorem gcd_step_eq {x y : Nat} : Nat.gcd y (x % y) = Nat.gcd x y := by rw [Nat.gcd_comm x y, Nat.gcd_rec y x, Nat.gcd_comm]

set_option maxRecDepth 100000 in
set_option maxHeartbeats 4000000 in
theorem gcdD_ge (A0 B0 : Option Addr) (n0 m0 ca0 cb0 x0 y0 : Nat) (w : World) (h1 : D w (.slice A0 n0 ca0) x0) (h2 : D w (.slice B0 m0 cb0) y0) (hn0 : n0 ≤ 999999) (hc : ¬ x0 < y0) :
    Calls Try.prog 85 #[.slice A0 n0 ca0, .slice B0 m0 cb0] w (RetD (Nat.gcd x0 y0) w) := by
  obtain ⟨N, hN⟩ : ∃ N, N = n0 := ⟨_, rfl⟩
  have hxN : x0 < W ^ N := by
    obtain ⟨f, f1, f2, f3, f4, f5⟩ := h1.open_
    rw [← f4, hN]; exact V_lt f2
  have HC : Hid (Calls Try.prog 88 #[.slice A0 n0 ca0, .slice B0 m0 cb0] w fun e w' => e = .returned (.int .i64 (cmpI (x0 : Int) (y0 : Int))) ∧ Drn w w') := by
    have hmn := h1.lens h2 (by omega)
    obtain ⟨f, f1, f2, f3, f4, f5⟩ := h1.open_
    obtain ⟨g, g1, g2, g3, g4, g5⟩ := h2.open_
    have := comp_any A0 B0 n0 m0 ca0 cb0 f g w (by omega) f5 g5 f2 g2 f3 g3
    rw [f4, g4] at this
    exact this
  obtain ⟨r, hr, hr0⟩ := cmpI_ge (x := (x0 : Int)) (y := (y0 : Int)) (by omega)
  rw [hr] at HC
  have hr1 : decide (r < 0) = false := by simp; omega
  have HN : Hid (N ≤ 999999) := by rw [hN]; exact hn0
  clear hr
  obtain ⟨G, hG⟩ : ∃ G, Nat.gcd x0 y0 = G := ⟨_, rfl⟩
  rw [hG]
  have HST : Hid (∀ wx, Drn w wx → GcdRel w N G (.slice A0 n0 ca0) (.slice B0 m0 cb0) wx) := fun wx hx =>
    ⟨x0, y0, Lib.hid (hx.d h1), Lib.hid (hx.d h2), Lib.hid (by omega), Lib.hid hxN, Lib.hid hG, Lib.hid (hx.below _)⟩
  clear h1 h2 hn0 hc hxN hN hG
  obtain ⟨F, hF⟩ := d_size
  have HF := Lib.hid hF
  clear hF
  go_enter Try.func85, Try.ntmps85
  go_wp2_with ((with_reducible refine HC.out.mono ?_); rintro e w1 ⟨rfl, hd⟩; (have HD := Lib.hid (HST.out _ hd)); clear hd)
  clear HC HST
  go_loopw [0, 1] (fun s t wr => GcdRel w N G s t wr) (fun _ t wr => F t wr)
  case atStart => exact HD.out
  case round =>
    clear HD
    obtain ⟨x, y, hDs, hDt, hyx, hxN, hG, hbel⟩ := hrel
    obtain ⟨A, n, c, rfl⟩ := hDs.out.shape
    obtain ⟨B, m, d, rfl⟩ := hDt.out.shape
    have hnN : n ≤ N := hDs.out.len hxN.out
    have hn9 : n ≤ 999999 := by have := HN.out; omega
    have hm9 : m ≤ 999999 := by have := hDs.out.lens hDt.out hyx.out; omega
    have HNN := Lib.hid hnN
    clear hnN
    by_cases hm2 : 2 < m
    · have hm2' : decide ((2 : Int) < (m : Int)) = true := by simp; omega
      have hy0 : Hid (0 < y) := by
        show 0 < y
        have := hDt.out.long (by omega)
        have := pow_pos' (m - 1)
        omega
      have HLD := Lib.hid (leadD_any A B n m c d x y wr hDs.out hDt.out hn9 hm2 hyx.out)
      go_wp2_with fail
      (with_reducible refine HLD.out.mono ?_)
      rintro e w1 ⟨A', B', C', D', rfl, hfac, hB1⟩
      have HFAC := Lib.hid hfac
      have HB1 := Lib.hid hB1
      clear HLD hfac hB1
      by_cases hz : B' = 0
      · subst hz
        go_wp2_with fail
        have hbx := HB1.out.alloc HB1.out.size (.cells #[.int .i64 A', .int .i64 0, .int .i64 C', .int .i64 D'] 114)
        have HBX := Lib.hid hbx
        clear hbx
        (with_reducible refine (divideD' A B n m c d x y _ (hDs.out.keep HBX.out) (hDt.out.keep HBX.out) hn9 hy0.out).mono ?_)
        rintro e w2 ⟨vq, vr, rfl, k1, k2, k3⟩
        have hb2 := hbel.out.trans ((HBX.out.trans (k3.mono HBX.out.size)).mono hbel.out.size)
        have hmod : x % y < y := Nat.mod_lt _ hy0.out
        have REL : GcdRel w N G (.slice B m d) vr w2 := ⟨y, x % y, Lib.hid ((hDt.out.keep HBX.out).keep k3), Lib.hid k2, Lib.hid (by omega), Lib.hid (by have := hyx.out; have := hxN.out; omega), Lib.hid (by rw [gcd_step_eq]; exact hG.out), Lib.hid hb2⟩
        have MEA : F vr w2 < F (.slice B m d) wr := by rw [HF.out _ _ _ k2, HF.out _ _ _ hDt.out]; exact hmod
        have HREL := Lib.hid REL
        have HMEA := Lib.hid MEA
        clear REL MEA hmod hb2 k1 k2 k3
        go_wp2_with fail
        exact ⟨HREL.out, HMEA.out⟩
      · have hz' : (B' == 0) = false := by simp [hz]
        obtain ⟨ok1, ok2, p, p', hp, hp', hpp, hpy, hgp⟩ := gcd_round HFAC.out hz
        go_wp2_with fail
        generalize hX : w1.alloc _ = X
        have FX : FB w1.heap.size A' B' C' D' X := by rw [← hX]; exact FB.new w1 A' B' C' D' 114 rfl
        have hwX : Below wr.heap.size wr X := by rw [← hX]; exact HB1.out.alloc HB1.out.size _
        generalize hg0 : w1.heap.size = g0 at *
        clear hX
        have HDX := Lib.hid (hDs.out.keep hwX)
        have HDY := Lib.hid (hDt.out.keep hwX)
        have HWX := Lib.hid hwX
        have HC1 : Hid (∀ wx, Below X.heap.size X wx → Calls Try.prog 103 #[.slice A n c, .slice B m d, .int .i64 A', .int .i64 B'] wx (RetD p wx)) := fun wx hx =>
          combD_any A B n m c d x y p A' B' wx (HDX.out.keep hx) (HDY.out.keep hx) hn9 hyx.out ok1 hp (by have := hyx.out; omega)
        have HC2 : Hid (∀ wx, Below X.heap.size X wx → Calls Try.prog 103 #[.slice A n c, .slice B m d, .int .i64 C', .int .i64 D'] wx (RetD p' wx)) := fun wx hx =>
          combD_any A B n m c d x y p' C' D' wx (HDX.out.keep hx) (HDY.out.keep hx) hn9 hyx.out ok2 hp' (by have := hyx.out; omega)
        have HPP := Lib.hid (And.intro hpp (And.intro hpy hgp))
        obtain ⟨c0, c1, c2, c3, -, -, -, -, clt⟩ := FX
        clear ok1 ok2 hp hp' hpp hpy hgp hwX HFAC HB1
        go_region_held3 (fun w' => w'.cell? ⟨g0, 0, none⟩ = some (.int .i64 A') ∧ w'.cell? ⟨g0, 1, none⟩ = some (.int .i64 B') ∧ w'.cell? ⟨g0, 2, none⟩ = some (.int .i64 C') ∧ w'.cell? ⟨g0, 3, none⟩ = some (.int .i64 D')) (simp [go_sem, *])
          (first
            | (go_at_call 103; (with_reducible refine (HC1.out _ (by repeat (first | exact Below.refl _ _ | refine Below.drew ?_ ))).mono ?_); rintro e wa ⟨va, rfl, hDa, hBa⟩; (have Ra : Below X.heap.size X wa := stepB' (by repeat (first | exact Below.refl _ _ | refine Below.drew ?_)) hBa); (have Ca := (bcell Ra).1); (have va1 := Nat.lt_of_lt_of_le clt Ra.size))
            | (go_at_call 103; (with_reducible refine (HC2.out _ (by repeat (first | exact Ra | refine Below.drew ?_ ))).mono ?_); rintro e wb ⟨vb, rfl, hDb, hBb⟩; (have Rb : Below X.heap.size X wb := stepB' (by repeat (first | exact Ra | refine Below.drew ?_)) hBb); (have Cb := (bcell Rb).1); (have vb1 := Nat.lt_of_lt_of_le clt Rb.size)))
        have hb2 := hbel.out.trans ((HWX.out.trans (Rb.mono HWX.out.size)).mono hbel.out.size)
        have HDa : D wb va p := hDa.keep (by repeat (first | exact hBb | exact Below.refl _ _ | refine Below.drew ?_))
        have HREL : Hid (GcdRel w N G va vb wb) := ⟨p, p', Lib.hid HDa, Lib.hid hDb, Lib.hid (by have := HPP.out.1; omega), Lib.hid (by have h1 := HPP.out.2.1; have h2 := hyx.out; have h3 := hxN.out; omega), Lib.hid (HPP.out.2.2.trans hG.out), Lib.hid hb2⟩
        have HMEA : Hid (F vb wb < F (.slice B m d) wr) := by
          show _ < _
          rw [HF.out _ _ _ hDb, HF.out _ _ _ hDt.out]
          have h1 := HPP.out
          omega
        clear HDa hb2 Ra Rb Ca Cb hBa hBb hDa hDb HC1 HC2 c0 c1 c2 c3 HPP HDX HDY HWX
        go_wp2_with fail
        exact ⟨HREL.out, HMEA.out⟩
    · have hm2' : decide ((2 : Int) < (m : Int)) = false := by simp; omega
      rcases Nat.eq_zero_or_pos m with h0 | h0
      · have hy0 : y = 0 := hDt.out.zero.2 h0
        have HG0 : Hid (x = G) := by
          have := hG.out
          rw [hy0, Nat.gcd_zero_right] at this
          exact this
        have hm0 : ((m : Int) == 0) = true := by rw [beq_iff_eq]; omega
        clear h0 hy0
        go_wp2_with fail
        go_ret
        exact ⟨_, rfl, by rw [← HG0.out]; exact hDs.out, hbel.out⟩
      · have hp : 0 < y := by
          rcases Nat.eq_zero_or_pos y with z | z
          · have := hDt.out.zero.1 z; omega
          · exact z
        have hm0 : ((m : Int) == 0) = false := by rw [beq_eq_false_iff_ne]; omega
        have HR := Lib.hid (divideD' A B n m c d x y wr hDs.out hDt.out hn9 hp)
        have HP := Lib.hid hp
        have HBW : Hid (∀ wx, Below wr.heap.size wr wx → Calls Try.prog 89 #[.slice B m d] wx fun e w' => e = .returned (.int .u64 ((y : Nat) : Int)) ∧ wx = w') := fun wx hx => by
          obtain ⟨g, g1, g2, g3, g4, g5⟩ := (hDt.out.keep hx).open_
          rw [← g4]
          exact wordm_any B m d g wx (by omega) g5 g2
        have H64 : Hid (y < 18446744073709551616) := by
          obtain ⟨g, g1, g2, g3, g4, g5⟩ := hDt.out.open_
          show y < _
          rw [← g4]
          exact V_lt_two g2 (by omega)
        clear hp h0 hm2 hm9 hn9
        go_wp2_with fail
        (with_reducible refine HR.out.mono ?_)
        rintro e w2 ⟨vq, vr, rfl, h1, h2, h3⟩
        obtain ⟨R, rn, rc, rf, rfl, r1, r2, r3, r4, r5, _⟩ := h2
        have hlt : V rf rn < y := by rw [r4]; exact Nat.mod_lt _ HP.out
        have hrn : rn ≤ 2 := by
          have := H64.out
          refine len_of_lt r3 ?_
          have e : W ^ 2 = 18446744073709551616 := by rw [W_eq]
          omega
        have hr64 : V rf rn < 18446744073709551616 := by have := H64.out; omega
        have hb2 := hbel.out.trans (h3.mono hbel.out.size)
        have HB2 := Lib.hid hb2
        have HB3 := Lib.hid h3
        have HW2 := Lib.hid (wordm_any R rn rc rf w2 hrn r5 r2)
        have HG2 := Lib.hid (fun wx => wordDiv_any y (V rf rn) wx H64.out hr64)
        have hgl : Nat.gcd y (V rf rn) < 18446744073709551616 := Nat.lt_of_le_of_lt (Nat.gcd_le_left _ HP.out) H64.out
        have HW3 := Lib.hid (fun wx => word_any (Nat.gcd y (V rf rn)) wx hgl)
        have HEQ : Hid (Nat.gcd y (V rf rn) = G) := by
          show _ = _
          rw [r4, gcd_step_eq]
          exact hG.out
        clear r1 r2 r3 r4 r5 hlt hrn hr64 hb2 hgl h1 h3 HR
        go_wp2_with fail
        (with_reducible refine (HBW.out _ HB3.out).mono ?_)
        rintro e w' ⟨rfl, rfl⟩
        go_wp2_with fail
        (with_reducible refine HW2.out.mono ?_)
        rintro e w' ⟨rfl, rfl⟩
        go_wp2_with fail
        (with_reducible refine (HG2.out _).mono ?_)
        rintro e w3 ⟨rfl, hd3⟩
        have HD3 := Lib.hid hd3
        clear hd3
        go_wp2_with fail
        (with_reducible refine (HW3.out _).mono ?_)
        rintro e w4 ⟨v4, rfl, hv4, hb4⟩
        go_wp2_with fail
        go_ret
        have hb3 := HB2.out.trans (HD3.out.below w.heap.size)
        exact ⟨v4, rfl, by rw [← HEQ.out]; exact hv4, hb3.trans (hb4.mono hb3.size)⟩

set_option maxRecDepth 100000 in
set_option maxHeartbeats 4000000 in
theorem gcdD_lt (A0 B0 : Option Addr) (n0 m0 ca0 cb0 x0 y0 : Nat) (w : World) (h1 : D w (.slice A0 n0 ca0) x0) (h2 : D w (.slice B0 m0 cb0) y0) (hn0 : m0 ≤ 999999) (hc : x0 < y0) :
    Calls Try.prog 85 #[.slice A0 n0 ca0, .slice B0 m0 cb0] w (RetD (Nat.gcd x0 y0) w) := by
  obtain ⟨N, hN⟩ : ∃ N, N = m0 := ⟨_, rfl⟩
  have hxN : y0 < W ^ N := by
    obtain ⟨f, f1, f2, f3, f4, f5⟩ := h2.open_
    rw [← f4, hN]; exact V_lt f2
  have HC : Hid (Calls Try.prog 88 #[.slice A0 n0 ca0, .slice B0 m0 cb0] w fun e w' => e = .returned (.int .i64 (cmpI (x0 : Int) (y0 : Int))) ∧ Drn w w') := by
    have hmn := h2.lens h1 (by omega)
    obtain ⟨f, f1, f2, f3, f4, f5⟩ := h1.open_
    obtain ⟨g, g1, g2, g3, g4, g5⟩ := h2.open_
    have := comp_any A0 B0 n0 m0 ca0 cb0 f g w (by omega) f5 g5 f2 g2 f3 g3
    rw [f4, g4] at this
    exact this
  have HCI : Hid (cmpI (x0 : Int) (y0 : Int) = -1) := cmpI_lt (by omega)
  rw [HCI.out] at HC
  clear HCI
  have HN : Hid (N ≤ 999999) := by rw [hN]; exact hn0
  obtain ⟨G, hG⟩ : ∃ G, Nat.gcd x0 y0 = G := ⟨_, rfl⟩
  rw [hG]
  have HST : Hid (∀ wx, Drn w wx → GcdRel w N G (.slice B0 m0 cb0) (.slice A0 n0 ca0) wx) := fun wx hx =>
    ⟨y0, x0, Lib.hid (hx.d h2), Lib.hid (hx.d h1), Lib.hid (by omega), Lib.hid hxN, Lib.hid (by rw [Nat.gcd_comm]; exact hG), Lib.hid (hx.below _)⟩
  clear h1 h2 hn0 hc hxN hN hG
  obtain ⟨F, hF⟩ := d_size
  have HF := Lib.hid hF
  clear hF
  go_enter Try.func85, Try.ntmps85
  go_wp2_with ((with_reducible refine HC.out.mono ?_); rintro e w1 ⟨rfl, hd⟩; (have HD := Lib.hid (HST.out _ hd)); clear hd)
  clear HC HST
  go_loopw [0, 1] (fun s t wr => GcdRel w N G s t wr) (fun _ t wr => F t wr)
  case atStart => exact HD.out
  case round =>
    clear HD
    obtain ⟨x, y, hDs, hDt, hyx, hxN, hG, hbel⟩ := hrel
    obtain ⟨A, n, c, rfl⟩ := hDs.out.shape
    obtain ⟨B, m, d, rfl⟩ := hDt.out.shape
    have hnN : n ≤ N := hDs.out.len hxN.out
    have hn9 : n ≤ 999999 := by have := HN.out; omega
    have hm9 : m ≤ 999999 := by have := hDs.out.lens hDt.out hyx.out; omega
    have HNN := Lib.hid hnN
    clear hnN
    by_cases hm2 : 2 < m
    · have hm2' : decide ((2 : Int) < (m : Int)) = true := by simp; omega
      have hy0 : Hid (0 < y) := by
        show 0 < y
        have := hDt.out.long (by omega)
        have := pow_pos' (m - 1)
        omega
      have HLD := Lib.hid (leadD_any A B n m c d x y wr hDs.out hDt.out hn9 hm2 hyx.out)
      go_wp2_with fail
      (with_reducible refine HLD.out.mono ?_)
      rintro e w1 ⟨A', B', C', D', rfl, hfac, hB1⟩
      have HFAC := Lib.hid hfac
      have HB1 := Lib.hid hB1
      clear HLD hfac hB1
      by_cases hz : B' = 0
      · subst hz
        go_wp2_with fail
        have hbx := HB1.out.alloc HB1.out.size (.cells #[.int .i64 A', .int .i64 0, .int .i64 C', .int .i64 D'] 114)
        have HBX := Lib.hid hbx
        clear hbx
        (with_reducible refine (divideD' A B n m c d x y _ (hDs.out.keep HBX.out) (hDt.out.keep HBX.out) hn9 hy0.out).mono ?_)
        rintro e w2 ⟨vq, vr, rfl, k1, k2, k3⟩
        have hb2 := hbel.out.trans ((HBX.out.trans (k3.mono HBX.out.size)).mono hbel.out.size)
        have hmod : x % y < y := Nat.mod_lt _ hy0.out
        have REL : GcdRel w N G (.slice B m d) vr w2 := ⟨y, x % y, Lib.hid ((hDt.out.keep HBX.out).keep k3), Lib.hid k2, Lib.hid (by omega), Lib.hid (by have := hyx.out; have := hxN.out; omega), Lib.hid (by rw [gcd_step_eq]; exact hG.out), Lib.hid hb2⟩
        have MEA : F vr w2 < F (.slice B m d) wr := by rw [HF.out _ _ _ k2, HF.out _ _ _ hDt.out]; exact hmod
        have HREL := Lib.hid REL
        have HMEA := Lib.hid MEA
        clear REL MEA hmod hb2 k1 k2 k3
        go_wp2_with fail
        exact ⟨HREL.out, HMEA.out⟩
      · have hz' : (B' == 0) = false := by simp [hz]
        obtain ⟨ok1, ok2, p, p', hp, hp', hpp, hpy, hgp⟩ := gcd_round HFAC.out hz
        go_wp2_with fail
        generalize hX : w1.alloc _ = X
        have FX : FB w1.heap.size A' B' C' D' X := by rw [← hX]; exact FB.new w1 A' B' C' D' 114 rfl
        have hwX : Below wr.heap.size wr X := by rw [← hX]; exact HB1.out.alloc HB1.out.size _
        generalize hg0 : w1.heap.size = g0 at *
        clear hX
        have HDX := Lib.hid (hDs.out.keep hwX)
        have HDY := Lib.hid (hDt.out.keep hwX)
        have HWX := Lib.hid hwX
        have HC1 : Hid (∀ wx, Below X.heap.size X wx → Calls Try.prog 103 #[.slice A n c, .slice B m d, .int .i64 A', .int .i64 B'] wx (RetD p wx)) := fun wx hx =>
          combD_any A B n m c d x y p A' B' wx (HDX.out.keep hx) (HDY.out.keep hx) hn9 hyx.out ok1 hp (by have := hyx.out; omega)
        have HC2 : Hid (∀ wx, Below X.heap.size X wx → Calls Try.prog 103 #[.slice A n c, .slice B m d, .int .i64 C', .int .i64 D'] wx (RetD p' wx)) := fun wx hx =>
          combD_any A B n m c d x y p' C' D' wx (HDX.out.keep hx) (HDY.out.keep hx) hn9 hyx.out ok2 hp' (by have := hyx.out; omega)
        have HPP := Lib.hid (And.intro hpp (And.intro hpy hgp))
        obtain ⟨c0, c1, c2, c3, -, -, -, -, clt⟩ := FX
        clear ok1 ok2 hp hp' hpp hpy hgp hwX HFAC HB1
        go_region_held3 (fun w' => w'.cell? ⟨g0, 0, none⟩ = some (.int .i64 A') ∧ w'.cell? ⟨g0, 1, none⟩ = some (.int .i64 B') ∧ w'.cell? ⟨g0, 2, none⟩ = some (.int .i64 C') ∧ w'.cell? ⟨g0, 3, none⟩ = some (.int .i64 D')) (simp [go_sem, *])
          (first
            | (go_at_call 103; (with_reducible refine (HC1.out _ (by repeat (first | exact Below.refl _ _ | refine Below.drew ?_ ))).mono ?_); rintro e wa ⟨va, rfl, hDa, hBa⟩; (have Ra : Below X.heap.size X wa := stepB' (by repeat (first | exact Below.refl _ _ | refine Below.drew ?_)) hBa); (have Ca := (bcell Ra).1); (have va1 := Nat.lt_of_lt_of_le clt Ra.size))
            | (go_at_call 103; (with_reducible refine (HC2.out _ (by repeat (first | exact Ra | refine Below.drew ?_ ))).mono ?_); rintro e wb ⟨vb, rfl, hDb, hBb⟩; (have Rb : Below X.heap.size X wb := stepB' (by repeat (first | exact Ra | refine Below.drew ?_)) hBb); (have Cb := (bcell Rb).1); (have vb1 := Nat.lt_of_lt_of_le clt Rb.size)))
        have hb2 := hbel.out.trans ((HWX.out.trans (Rb.mono HWX.out.size)).mono hbel.out.size)
        have HDa : D wb va p := hDa.keep (by repeat (first | exact hBb | exact Below.refl _ _ | refine Below.drew ?_))
        have HREL : Hid (GcdRel w N G va vb wb) := ⟨p, p', Lib.hid HDa, Lib.hid hDb, Lib.hid (by have := HPP.out.1; omega), Lib.hid (by have h1 := HPP.out.2.1; have h2 := hyx.out; have h3 := hxN.out; omega), Lib.hid (HPP.out.2.2.trans hG.out), Lib.hid hb2⟩
        have HMEA : Hid (F vb wb < F (.slice B m d) wr) := by
          show _ < _
          rw [HF.out _ _ _ hDb, HF.out _ _ _ hDt.out]
          have h1 := HPP.out
          omega
        clear HDa hb2 Ra Rb Ca Cb hBa hBb hDa hDb HC1 HC2 c0 c1 c2 c3 HPP HDX HDY HWX
        go_wp2_with fail
        exact ⟨HREL.out, HMEA.out⟩
    · have hm2' : decide ((2 : Int) < (m : Int)) = false := by simp; omega
      rcases Nat.eq_zero_or_pos m with h0 | h0
      · have hy0 : y = 0 := hDt.out.zero.2 h0
        have HG0 : Hid (x = G) := by
          have := hG.out
          rw [hy0, Nat.gcd_zero_right] at this
          exact this
        have hm0 : ((m : Int) == 0) = true := by rw [beq_iff_eq]; omega
        clear h0 hy0
        go_wp2_with fail
        go_ret
        exact ⟨_, rfl, by rw [← HG0.out]; exact hDs.out, hbel.out⟩
      · have hp : 0 < y := by
          rcases Nat.eq_zero_or_pos y with z | z
          · have := hDt.out.zero.1 z; omega
          · exact z
        have hm0 : ((m : Int) == 0) = false := by rw [beq_eq_false_iff_ne]; omega
        have HR := Lib.hid (divideD' A B n m c d x y wr hDs.out hDt.out hn9 hp)
        have HP := Lib.hid hp
        have HBW : Hid (∀ wx, Below wr.heap.size wr wx → Calls Try.prog 89 #[.slice B m d] wx fun e w' => e = .returned (.int .u64 ((y : Nat) : Int)) ∧ wx = w') := fun wx hx => by
          obtain ⟨g, g1, g2, g3, g4, g5⟩ := (hDt.out.keep hx).open_
          rw [← g4]
          exact wordm_any B m d g wx (by omega) g5 g2
        have H64 : Hid (y < 18446744073709551616) := by
          obtain ⟨g, g1, g2, g3, g4, g5⟩ := hDt.out.open_
          show y < _
          rw [← g4]
          exact V_lt_two g2 (by omega)
        clear hp h0 hm2 hm9 hn9
        go_wp2_with fail
        (with_reducible refine HR.out.mono ?_)
        rintro e w2 ⟨vq, vr, rfl, h1, h2, h3⟩
        obtain ⟨R, rn, rc, rf, rfl, r1, r2, r3, r4, r5, _⟩ := h2
        have hlt : V rf rn < y := by rw [r4]; exact Nat.mod_lt _ HP.out
        have hrn : rn ≤ 2 := by
          have := H64.out
          refine len_of_lt r3 ?_
          have e : W ^ 2 = 18446744073709551616 := by rw [W_eq]
          omega
        have hr64 : V rf rn < 18446744073709551616 := by have := H64.out; omega
        have hb2 := hbel.out.trans (h3.mono hbel.out.size)
        have HB2 := Lib.hid hb2
        have HB3 := Lib.hid h3
        have HW2 := Lib.hid (wordm_any R rn rc rf w2 hrn r5 r2)
        have HG2 := Lib.hid (fun wx => wordDiv_any y (V rf rn) wx H64.out hr64)
        have hgl : Nat.gcd y (V rf rn) < 18446744073709551616 := Nat.lt_of_le_of_lt (Nat.gcd_le_left _ HP.out) H64.out
        have HW3 := Lib.hid (fun wx => word_any (Nat.gcd y (V rf rn)) wx hgl)
        have HEQ : Hid (Nat.gcd y (V rf rn) = G) := by
          show _ = _
          rw [r4, gcd_step_eq]
          exact hG.out
        clear r1 r2 r3 r4 r5 hlt hrn hr64 hb2 hgl h1 h3 HR
        go_wp2_with fail
        (with_reducible refine (HBW.out _ HB3.out).mono ?_)
        rintro e w' ⟨rfl, rfl⟩
        go_wp2_with fail
        (with_reducible refine HW2.out.mono ?_)
        rintro e w' ⟨rfl, rfl⟩
        go_wp2_with fail
        (with_reducible refine (HG2.out _).mono ?_)
        rintro e w3 ⟨rfl, hd3⟩
        have HD3 := Lib.hid hd3
        clear hd3
        go_wp2_with fail
        (with_reducible refine (HW3.out _).mono ?_)
        rintro e w4 ⟨v4, rfl, hv4, hb4⟩
        go_wp2_with fail
        go_ret
        have hb3 := HB2.out.trans (HD3.out.below w.heap.size)
        exact ⟨v4, rfl, by rw [← HEQ.out]; exact hv4, hb3.trans (hb4.mono hb3.size)⟩

/-- exact.digits.divisor, for numbers of any size. -/
theorem gcdD_any (A B : Option Addr) (n m c d x y : Nat) (w : World) (h1 : D w (.slice A n c) x) (h2 : D w (.slice B m d) y) (hn : n ≤ 999999) (hm : m ≤ 999999) :
    Calls Try.prog 85 #[.slice A n c, .slice B m d] w (RetD (Nat.gcd x y) w) := by
  by_cases hc : x < y
  · exact gcdD_lt A B n m c d x y w h1 h2 hm hc
  · exact gcdD_ge A B n m c d x y w h1 h2 hn hc

end Go.Proofs.Ytfhmhkbjcccejaa
