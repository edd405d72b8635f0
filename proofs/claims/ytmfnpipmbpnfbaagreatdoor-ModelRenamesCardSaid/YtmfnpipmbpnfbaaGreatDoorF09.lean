/- Lehmer's combination of two long numbers in memory. -/
import Derived.Test.YtmfnpipmbpnfbaaGreatDoorF08
import Derived.Test.YtmfnpipmbpnfbaaGreatDoorF00

set_option maxRecDepth 100000
set_option maxHeartbeats 40000000
namespace Go.Proofs.YtmfnpipmbpnfbaaGreatDoor
open Go.RowKit
def CombRel (w : World) (n m : Nat) (f g : Nat → Nat) (X Y : Int) (carry i : Value) (wr : World) : Prop :=
  ∃ (k : Nat) (c : Int) (h : Nat → Nat), k ≤ n ∧ i = .int .i64 (k : Int) ∧ carry = .int .i64 c ∧ -2147483648 ≤ c ∧ c < 2147483648 ∧ (∀ j, j < k → h j < W) ∧
    ((V h k : Nat) : Int) + c * ((W ^ k : Nat) : Int) = X * ((V f k : Nat) : Int) + Y * ((V (ext g m) k : Nat) : Int) ∧ Row wr w.heap.size n h ∧ Below w.heap.size w wr
theorem combrel_start (w : World) (n m : Nat) (f g : Nat → Nat) (X Y : Int) : CombRel w n m f g X Y (.int .i64 0) (.int .i64 0) (w.alloc (.cells (madeCells #[.int .u32 0] n) 193)) :=
  ⟨0, 0, fun _ => 0, Nat.zero_le _, rfl, rfl, by omega, by omega, fun j hj => by omega, by simp [V_zero], Row.new w n, (Below.refl _ _).alloc (Nat.le_refl _) _⟩
theorem prod_up {X : Int} {d : Nat} (h0 : 0 ≤ X) (h1 : X < 2147483648) (hd : d < 4294967296) : 0 ≤ X * (d : Int) ∧ X * (d : Int) ≤ 9223372030412324865 := by
  obtain ⟨x, rfl⟩ := Int.eq_ofNat_of_zero_le h0
  have h : x * d ≤ 2147483647 * 4294967295 := Nat.mul_le_mul (by omega) (by omega)
  have e : ((x * d : Nat) : Int) = (x : Int) * (d : Int) := Int.natCast_mul _ _
  omega
theorem prod_dn {X : Int} {d : Nat} (h0 : X ≤ 0) (h1 : -2147483648 < X) (hd : d < 4294967296) : X * (d : Int) ≤ 0 ∧ -9223372030412324865 ≤ X * (d : Int) := by
  have := prod_up (X := -X) (by omega) (by omega) hd
  rw [Int.neg_mul] at this
  omega
def CombOk (X Y : Int) : Prop := -2147483648 < X ∧ X < 2147483648 ∧ -2147483648 < Y ∧ Y < 2147483648 ∧ ((0 ≤ X ∧ Y ≤ 0) ∨ (X ≤ 0 ∧ 0 ≤ Y))
theorem CombOk.bounds {X Y : Int} (h : CombOk X Y) {d e : Nat} (hd : d < 4294967296) (he : e < 4294967296) :
    -9223372030412324865 ≤ X * (d : Int) ∧ X * (d : Int) ≤ 9223372030412324865 ∧ -9223372030412324865 ≤ Y * (e : Int) ∧ Y * (e : Int) ≤ 9223372030412324865 ∧
      -9223372030412324865 ≤ X * (d : Int) + Y * (e : Int) ∧ X * (d : Int) + Y * (e : Int) ≤ 9223372030412324865 := by
  obtain ⟨h1, h2, h3, h4, h5⟩ := h
  rcases h5 with ⟨a, b⟩ | ⟨a, b⟩
  · have p := prod_up a h2 hd
    have q := prod_dn b h3 he
    omega
  · have p := prod_dn a h1 hd
    have q := prod_up b h4 he
    omega
theorem combrel_step {w wr wd : World} {n m k : Nat} {f g h : Nat → Nat} {X Y c : Int} (hk : k < n) (hc0 : -2147483648 ≤ c) (hc1 : c < 2147483648) (hok : CombOk X Y) (hf : f k < 4294967296) (hg : ext g m k < 4294967296) (hh : ∀ j, j < k → h j < W)
    (hv : ((V h k : Nat) : Int) + c * ((W ^ k : Nat) : Int) = X * ((V f k : Nat) : Int) + Y * ((V (ext g m) k : Nat) : Int)) (hrow : Row wr w.heap.size n h) (hbel : Below w.heap.size w wr) {q : Nat} {a s : Int} {i v : Value}
    (hs : s = X * ((f k : Nat) : Int) + Y * ((ext g m k : Nat) : Int) + c) (ha : a = (k : Int) + 1) (hi : i = .int .i64 a)
    (hw : wd = (wr.drewN q).setCell ⟨w.heap.size, k, none⟩ (.int .u32 (s % 4294967296))) (hb : v = .int .i64 (s / 4294967296)) :
    CombRel w n m f g X Y v i wd := by
  subst ha hi hw hb
  have hbd := hok.bounds hf hg
  obtain ⟨r, hr⟩ := Int.eq_ofNat_of_zero_le (show 0 ≤ s % 4294967296 by omega)
  have hrW : r < W := by rw [W_eq]; omega
  have hsp : s = 4294967296 * (s / 4294967296) + r := by omega
  rw [hr]
  have hrow' : Row (wr.drewN q) w.heap.size n h := hrow.drewN q
  have hbel' : Below w.heap.size w (wr.drewN q) := ⟨hbel.os, hbel.tape, hbel.output, hbel.size, hbel.block⟩
  refine ⟨k + 1, s / 4294967296, up h k r, by omega, by rw [show ((k + 1 : Nat) : Int) = (k : Int) + 1 from by omega], rfl, by omega, by omega, ?_, ?_, hrow'.set k _, hbel'.setCell (Nat.le_refl _) _⟩
  · intro j hj
    by_cases e : j = k
    · rw [e, up_at]; exact hrW
    · rw [up_far h _ e]; exact hh j (by omega)
  · rw [V_succ, V_succ, V_succ, up_at, V_up_below h _ (Nat.le_refl k), pow_succ']
    simp only [Int.natCast_add, Int.natCast_mul, Int.mul_add]
    generalize ((W ^ k : Nat) : Int) = P at *
    generalize ((V h k : Nat) : Int) = H at *
    generalize ((V f k : Nat) : Int) = F at *
    generalize ((V (ext g m) k : Nat) : Int) = G at *
    generalize ((f k : Nat) : Int) = d at *
    generalize ((ext g m k : Nat) : Int) = e at *
    generalize s / 4294967296 = t at *
    have e1 : (r : Int) * P + t * (P * ((W : Nat) : Int)) = s * P := by
      rw [hsp, Int.add_mul, W_eq]
      have : t * (P * ((4294967296 : Nat) : Int)) = 4294967296 * t * P := by
        rw [show ((4294967296 : Nat) : Int) = 4294967296 from rfl, Int.mul_comm P, ← Int.mul_assoc, Int.mul_comm t]
      omega
    have e2 : s * P = X * (d * P) + Y * (e * P) + c * P := by rw [hs, Int.add_mul, Int.add_mul, Int.mul_assoc, Int.mul_assoc]
    omega
theorem combrel_end {n m k : Nat} {f g h : Nat → Nat} {X Y c R : Int} (hk : k = n) (hm : m ≤ n) (hh : ∀ j, j < k → h j < W) (hR : X * ((V f n : Nat) : Int) + Y * ((V g m : Nat) : Int) = R) (h0 : 0 ≤ R) (h1 : R < ((W ^ n : Nat) : Int))
    (hv : ((V h k : Nat) : Int) + c * ((W ^ k : Nat) : Int) = X * ((V f k : Nat) : Int) + Y * ((V (ext g m) k : Nat) : Int)) : V h n = R.toNat := by
  subst hk
  rw [V_ext hm, hR] at hv
  have b1 := V_lt hh
  have hp := pow_pos' k
  rcases Int.lt_trichotomy c 0 with g | g | g
  · have : c * ((W ^ k : Nat) : Int) ≤ (-1) * ((W ^ k : Nat) : Int) := Int.mul_le_mul_of_nonneg_right (by omega) (by omega)
    omega
  · subst g; omega
  · have : 1 * ((W ^ k : Nat) : Int) ≤ c * ((W ^ k : Nat) : Int) := Int.mul_le_mul_of_nonneg_right (by omega) (by omega)
    omega
theorem combine_any (A B : Option Addr) (n m ca cb : Nat) (f g : Nat → Nat) (X Y R : Int) (w : World) (hn : n ≤ 1000000) (hmn : m ≤ n) (hA : Dg w A n f) (hB : Dg w B m g)
    (hf : ∀ i, i < n → f i < W) (hg : ∀ i, i < m → g i < W) (hok : CombOk X Y) (hR : X * ((V f n : Nat) : Int) + Y * ((V g m : Nat) : Int) = R) (h0 : 0 ≤ R) (h1 : R < ((W ^ n : Nat) : Int)) :
    Calls Tryz.prog 267 #[.slice A n ca, .slice B m cb, .int .i64 X, .int .i64 Y] w (RetD R.toNat w) := by
  have hmk := make_row n (by omega)
  have HF := Lib.hid hf
  have HG := Lib.hid hg
  have HOK := Lib.hid hok
  have HR := Lib.hid hR
  have H0 := Lib.hid h0
  have H1 := Lib.hid h1
  clear hf hg hok hR h0 h1
  go_enter Tryz.func267, Tryz.ntmps267
  go_wp2_with fail
  clear hmk
  go_loopw [10, 18] (fun c i wr => CombRel w n m f g X Y c i wr) (fun _ i _ => n - (intOf i).toNat)
  case atStart => exact combrel_start w n m f g X Y
  case round =>
    obtain ⟨k, c, h, hk, rfl, rfl, hc0, hc1, hh, hv, hrow, hbel⟩ := hrel
    have HH := Lib.hid hh
    have HV := Lib.hid hv
    clear hh hv
    by_cases hlt : k < n
    · obtain ⟨b, off, rfl, hb, hcells⟩ := (hA.keep hbel) (by omega)
      have hcl := hcells k hlt
      have hB1 : Dg wr B m g := hB.keep hbel
      have b1 : f k < 4294967296 := HF.out k hlt
      have b2 := ext_lt HG.out k
      have hcell := hrow.cell hlt
      have hfr := hrow.frozen k
      have hkn : (k : Int) < (n : Int) := by omega
      obtain ⟨q1, q2, q3, q4, q5, q6⟩ := HOK.out.bounds b1 b2
      have hkk : ((k : Int)).toNat = k := by omega
      clear hcells
      obtain ⟨p1, hp1⟩ : ∃ p, p = X * ((f k : Nat) : Int) := ⟨_, rfl⟩
      obtain ⟨p2, hp2⟩ : ∃ p, p = Y * ((ext g m k : Nat) : Int) := ⟨_, rfl⟩
      rw [← hp1] at q1 q2 q5 q6
      rw [← hp2] at q3 q4 q5 q6
      go_wp2_with fail
      go_quiet ((go_at_call 270; exact Calls.quiet_of_same ((at_any _ _ _ g _ _ (by omega) (by omega) (by omega) (Dg.drewN hB1 _)).mono fun _ _ hh => ⟨hh.1, hh.2.symm⟩)))
      go_wp2_with fail
      exact ⟨combrel_step hlt hc0 hc1 HOK.out b1 b2 HH.out HV.out hrow hbel rfl rfl rfl rfl rfl, by simp [intOf]; omega⟩
    · have hke : k = n := by omega
      have HE := Lib.hid (combrel_end hke hmn HH.out HR.out H0.out H1.out HV.out)
      have HD := Lib.hid (hrow.dg (Nat.le_refl _))
      have HH2 : Hid (∀ j, j < n → h j < W) := by have := HH.out; rw [hke] at this; exact this
      clear hke HV HH
      go_wp2_with ((with_reducible refine (trim_any _ _ _ h _ (Nat.le_refl _) (by omega) HD.out).mono ?_); rintro e w' ⟨q, rfl, hq, hN, hQ, rfl⟩)
      go_ret
      refine ⟨_, rfl, ⟨_, q, _, h, rfl, by omega, fun i hi => HH2.out i (by omega), hN, hQ.trans HE.out, ?_, hrow.tt _⟩, hbel⟩
      intro h0
      obtain ⟨b, off, e1, e2, e3⟩ := HD.out (by omega)
      exact ⟨b, off, e1, e2, fun i hi => e3 i (by omega)⟩
end Go.Proofs.YtmfnpipmbpnfbaaGreatDoor
namespace Go.Proofs.YtmfnpipmbpnfbaaGreatDoor
structure LI (x0 y0 s A B C D x y : Int) : Prop where
  hx : x = A * x0 + B * y0
  hy : y = C * x0 + D * y0
  det : A * D - B * C = s
  pat : (s = 1 ∧ 0 ≤ A ∧ B ≤ 0 ∧ C ≤ 0 ∧ 0 ≤ D) ∨ (s = -1 ∧ A ≤ 0 ∧ 0 ≤ B ∧ 0 ≤ C ∧ D ≤ 0)
  nA : 0 ≤ x + A
  nB : 0 ≤ x + B
  nC : 0 ≤ y + C
  nD : 0 ≤ y + D
theorem LI.start {x0 y0 : Int} (h : 0 ≤ x0) (h' : 0 ≤ y0) : LI x0 y0 1 1 0 0 1 x0 y0 :=
  ⟨by omega, by omega, by omega, Or.inl ⟨rfl, by omega, by omega, by omega, by omega⟩, by omega, by omega, by omega, by omega⟩
theorem LI.back {x0 y0 s A B C D x y : Int} (h : LI x0 y0 s A B C D x y) : s * x0 = D * x - B * y ∧ s * y0 = A * y - C * x := by
  obtain ⟨hx, hy, hd, -⟩ := h
  subst hx hy hd
  constructor
  · simp only [Int.mul_add, Int.sub_mul, Int.mul_assoc]
    have e1 : D * (B * y0) = B * (D * y0) := Int.mul_left_comm _ _ _
    have e2 : D * (A * x0) = A * (D * x0) := Int.mul_left_comm _ _ _
    omega
  · simp only [Int.mul_add, Int.sub_mul, Int.mul_assoc]
    have e1 : C * (A * x0) = A * (C * x0) := Int.mul_left_comm _ _ _
    have e2 : C * (B * y0) = B * (C * y0) := Int.mul_left_comm _ _ _
    omega
theorem LI.step {x0 y0 s A B C D x y q : Int} (h : LI x0 y0 s A B C D x y) (hC : 0 < y + C) (hD : 0 < y + D) (h1 : q * (y + C) ≤ x + A) (h2 : q * (y + D) ≤ x + B) (hq : 0 ≤ q) :
    LI x0 y0 (-s) C D (A - q * C) (B - q * D) y (x - q * y) := by
  obtain ⟨hx, hy, hd, hp, -, -, -, -⟩ := h
  have e1 : q * (y + C) = q * y + q * C := Int.mul_add _ _ _
  have e2 : q * (y + D) = q * y + q * D := Int.mul_add _ _ _
  refine ⟨hy, ?_, ?_, ?_, by omega, by omega, by omega, by omega⟩
  · rw [hx, hy, Int.sub_mul, Int.sub_mul, Int.mul_add, Int.mul_assoc, Int.mul_assoc]
    omega
  · have e3 : C * (B - q * D) = C * B - C * (q * D) := Int.mul_sub _ _ _
    have e4 : D * (A - q * C) = D * A - D * (q * C) := Int.mul_sub _ _ _
    have e5 : C * (q * D) = D * (q * C) := by rw [Int.mul_left_comm, Int.mul_comm C D, Int.mul_left_comm]
    have e6 : C * B = B * C := Int.mul_comm _ _
    have e7 : D * A = A * D := Int.mul_comm _ _
    omega
  · rcases hp with ⟨rfl, p1, p2, p3, p4⟩ | ⟨rfl, p1, p2, p3, p4⟩
    · have m1 : q * C ≤ 0 := Int.mul_nonpos_of_nonneg_of_nonpos hq p3
      have m2 : 0 ≤ q * D := Int.mul_nonneg hq p4
      exact Or.inr ⟨rfl, p3, p4, by omega, by omega⟩
    · have m1 : 0 ≤ q * C := Int.mul_nonneg hq p3
      have m2 : q * D ≤ 0 := Int.mul_nonpos_of_nonneg_of_nonpos hq p4
      exact Or.inl ⟨rfl, p3, p4, by omega, by omega⟩
theorem LI.short {x0 y0 s A B C D x y : Int} (h : LI x0 y0 s A B C D x y) (hx : 0 ≤ x) (hy : 0 ≤ y) :
    D.natAbs * x.natAbs ≤ (s * x0).natAbs ∧ C.natAbs * x.natAbs ≤ (s * y0).natAbs := by
  obtain ⟨b1, b2⟩ := h.back
  rw [← Int.natAbs_mul, ← Int.natAbs_mul]
  rcases h.pat with ⟨-, p1, p2, p3, p4⟩ | ⟨-, p1, p2, p3, p4⟩
  · have m1 := Int.mul_nonneg p4 hx
    have m2 := Int.mul_nonpos_of_nonpos_of_nonneg p2 hy
    have m3 := Int.mul_nonpos_of_nonpos_of_nonneg p3 hx
    have m4 := Int.mul_nonneg p1 hy
    constructor <;> omega
  · have m1 := Int.mul_nonpos_of_nonpos_of_nonneg p4 hx
    have m2 := Int.mul_nonneg p2 hy
    have m3 := Int.mul_nonneg p3 hx
    have m4 := Int.mul_nonpos_of_nonpos_of_nonneg p1 hy
    constructor <;> omega
theorem LI.rest {x0 y0 s A B C D x y P a b al be : Int} (h : LI x0 y0 s A B C D x y) (ha : a = x0 * P + al) (hb : b = y0 * P + be) (h1 : 0 ≤ al) (h2 : al ≤ P) (h3 : 0 ≤ be) (h4 : be ≤ P) (hlt : y + C < x + A) (hlt' : y + D < x + B) :
    0 ≤ C * a + D * b ∧ C * a + D * b ≤ A * a + B * b ∧ (0 < P → C * a + D * b < A * a + B * b) := by
  have er : A * a + B * b = x * P + (A * al + B * be) := by
    rw [ha, hb, h.hx, Int.mul_add, Int.mul_add, Int.add_mul, ← Int.mul_assoc, ← Int.mul_assoc]
    omega
  have er' : C * a + D * b = y * P + (C * al + D * be) := by
    rw [ha, hb, h.hy, Int.mul_add, Int.mul_add, Int.add_mul, ← Int.mul_assoc, ← Int.mul_assoc]
    omega
  have hP : 0 ≤ P := by omega
  have up : ∀ {k t : Int}, 0 ≤ k → 0 ≤ t → t ≤ P → 0 ≤ k * t ∧ k * t ≤ k * P := fun hk ht hp => ⟨Int.mul_nonneg hk ht, Int.mul_le_mul_of_nonneg_left hp hk⟩
  have dn : ∀ {k t : Int}, k ≤ 0 → 0 ≤ t → t ≤ P → k * P ≤ k * t ∧ k * t ≤ 0 := fun hk ht hp => ⟨Int.mul_le_mul_of_nonpos_left hk hp, Int.mul_nonpos_of_nonpos_of_nonneg hk ht⟩
  have key : ∀ {u v : Int}, u < v → u * P ≤ v * P ∧ (0 < P → u * P < v * P) := fun huv => ⟨Int.mul_le_mul_of_nonneg_right (by omega) hP, fun hp => Int.mul_lt_mul_of_pos_right huv hp⟩
  have nn : ∀ {u : Int}, 0 ≤ u → 0 ≤ u * P := fun hu => Int.mul_nonneg hu hP
  have d1 : (y + C) * P = y * P + C * P := Int.add_mul _ _ _
  have d2 : (y + D) * P = y * P + D * P := Int.add_mul _ _ _
  have d3 : (x + A) * P = x * P + A * P := Int.add_mul _ _ _
  have d4 : (x + B) * P = x * P + B * P := Int.add_mul _ _ _
  have k1 := key hlt
  have k2 := key hlt'
  have n1 := nn h.nC
  have n2 := nn h.nD
  rcases h.pat with ⟨-, p1, p2, p3, p4⟩ | ⟨-, p1, p2, p3, p4⟩
  · have u1 := up p1 h1 h2
    have u2 := dn p2 h3 h4
    have u3 := dn p3 h1 h2
    have u4 := up p4 h3 h4
    refine ⟨by omega, by omega, fun hp => ?_⟩
    have := k2.2 hp
    omega
  · have u1 := dn p1 h1 h2
    have u2 := up p2 h3 h4
    have u3 := up p3 h1 h2
    have u4 := dn p4 h3 h4
    refine ⟨by omega, by omega, fun hp => ?_⟩
    have := k1.2 hp
    omega
theorem LI.gcd {x0 y0 s A B C D x y : Int} (h : LI x0 y0 s A B C D x y) (a b : Int) : Int.gcd (A * a + B * b) (C * a + D * b) = Int.gcd a b := by
  have hs : s = 1 ∨ s = -1 := by rcases h.pat with ⟨e, -⟩ | ⟨e, -⟩ <;> simp [e]
  obtain ⟨r, hr⟩ : ∃ r, A * a + B * b = r := ⟨_, rfl⟩
  obtain ⟨r', hr'⟩ : ∃ r', C * a + D * b = r' := ⟨_, rfl⟩
  rw [hr, hr']
  have e1 : s * a = D * r - B * r' := by
    rw [← hr, ← hr', ← h.det, Int.sub_mul, Int.mul_add, Int.mul_add, Int.mul_assoc, Int.mul_assoc]
    have f1 : D * (A * a) = A * (D * a) := Int.mul_left_comm _ _ _
    have f2 : D * (B * b) = B * (D * b) := Int.mul_left_comm _ _ _
    omega
  have e2 : s * b = A * r' - C * r := by
    rw [← hr, ← hr', ← h.det, Int.sub_mul, Int.mul_add, Int.mul_add, Int.mul_assoc, Int.mul_assoc]
    have f1 : C * (A * a) = A * (C * a) := Int.mul_left_comm _ _ _
    have f2 : C * (B * b) = B * (C * b) := Int.mul_left_comm _ _ _
    omega
  have back : ∀ {u v : Int} {d : Int}, s * u = v → d ∣ v → d ∣ u := fun {u v d} e hd => by
    rcases hs with k | k
    · rw [k, Int.one_mul] at e
      rw [e]
      exact hd
    · rw [k, Int.neg_mul, Int.one_mul] at e
      rw [show u = -v by omega]
      exact Int.dvd_neg.2 hd
  apply Nat.dvd_antisymm
  · have g1 := Int.gcd_dvd_left r r'
    have g2 := Int.gcd_dvd_right r r'
    exact Int.dvd_gcd (back e1 (Int.dvd_sub (Int.dvd_mul_of_dvd_right g1) (Int.dvd_mul_of_dvd_right g2))) (back e2 (Int.dvd_sub (Int.dvd_mul_of_dvd_right g2) (Int.dvd_mul_of_dvd_right g1)))
  · have g1 := Int.gcd_dvd_left a b
    have g2 := Int.gcd_dvd_right a b
    refine Int.dvd_gcd ?_ ?_
    · rw [← hr]
      exact Int.dvd_add (Int.dvd_mul_of_dvd_right g1) (Int.dvd_mul_of_dvd_right g2)
    · rw [← hr']
      exact Int.dvd_add (Int.dvd_mul_of_dvd_right g1) (Int.dvd_mul_of_dvd_right g2)
theorem LI.long {x0 y0 s A B C D x y q : Int} (h : LI x0 y0 s A B C D x y) (hC : 0 < y + C) (hD : 0 < y + D) (h1 : q * (y + C) ≤ x + A) (h2 : x + A < q * (y + C) + (y + C)) (h3 : q * (y + D) ≤ x + B) (h4 : x + B < q * (y + D) + (y + D))
    (hx0 : 0 ≤ x0) (hy0 : 0 ≤ y0) (hyx : y0 ≤ x0) (hx : 0 ≤ x) (hy : 0 ≤ y) (hlt : (y + C < x + A ∧ y + D < x + B) ∨ (C = 0 ∧ D = 1 ∧ y = y0)) : x0 < 2 * (y * y) := by
  obtain ⟨e1, he1⟩ : ∃ e1, x + A = q * (y + C) + e1 := ⟨x + A - q * (y + C), by omega⟩
  obtain ⟨e2, he2⟩ : ∃ e2, x + B = q * (y + D) + e2 := ⟨x + B - q * (y + D), by omega⟩
  have r1 : 0 ≤ e1 := by omega
  have r2 : e1 ≤ y + C - 1 := by omega
  have r3 : 0 ≤ e2 := by omega
  have r4 : e2 ≤ y + D - 1 := by omega
  obtain ⟨b1, b2⟩ := h.back
  -- the difference of the cross products
  have c1 : e1 * (y + D) - e2 * (y + C) = s * x0 + s * y0 + s := by
    have m1 : (x + A) * (y + D) = q * (y + C) * (y + D) + e1 * (y + D) := by rw [he1, Int.add_mul]
    have m2 : (x + B) * (y + C) = q * (y + D) * (y + C) + e2 * (y + C) := by rw [he2, Int.add_mul]
    have m3 : q * (y + C) * (y + D) = q * (y + D) * (y + C) := Int.mul_right_comm _ _ _
    have m4 : (x + A) * (y + D) = x * y + A * y + (x * D + A * D) := by rw [Int.mul_add, Int.add_mul, Int.add_mul]
    have m5 : (x + B) * (y + C) = x * y + B * y + (x * C + B * C) := by rw [Int.mul_add, Int.add_mul, Int.add_mul]
    have m6 : x * D = D * x := Int.mul_comm _ _
    have m7 : x * C = C * x := Int.mul_comm _ _
    have := h.det
    omega
  have u1 : e1 * (y + D) ≤ (y + C - 1) * (y + D) := Int.mul_le_mul_of_nonneg_right r2 (by omega)
  have u2 : e2 * (y + C) ≤ (y + D - 1) * (y + C) := Int.mul_le_mul_of_nonneg_right r4 (by omega)
  have u3 : 0 ≤ e1 * (y + D) := Int.mul_nonneg r1 (by omega)
  have u4 : 0 ≤ e2 * (y + C) := Int.mul_nonneg r3 (by omega)
  have v1 : (y + C - 1) * (y + D) = (y + C) * (y + D) - (y + D) := by rw [Int.sub_mul, Int.one_mul]
  have v2 : (y + D - 1) * (y + C) = (y + C) * (y + D) - (y + C) := by rw [Int.sub_mul, Int.one_mul, Int.mul_comm (y + D)]
  have w1 : x0 + y0 + 1 < (y + C) * (y + D) := by
    rcases h.pat with ⟨e, -⟩ | ⟨e, -⟩
    · rw [e] at c1
      omega
    · rw [e] at c1
      omega
  -- the greater of the two factors
  have fin : ∀ E F : Int, 0 ≤ E → F ≤ 0 → (y + E) * (y + F) = (y + C) * (y + D) → (y + E ≤ x ∨ E = 1) → E * x ≤ x0 → (E = 1 → y = y0 ∨ y + E ≤ x) → x0 < 2 * (y * y) := by
    intro E F hE hF he hor hsx hone
    have g1 : (y + E) * (y + F) ≤ (y + E) * y := Int.mul_le_mul_of_nonneg_left (by omega) (by omega)
    have g2 : (y + E) * y = y * y + E * y := Int.add_mul _ _ _
    by_cases hEy : E ≤ y
    · have g3 : E * y ≤ y * y := Int.mul_le_mul_of_nonneg_right hEy hy
      omega
    · -- E > y: then E (y + E) <= E x <= x0 < (y + E) y, no
      by_cases hc : y + E ≤ x
      · have g4 : E * (y + E) ≤ E * x := Int.mul_le_mul_of_nonneg_left hc hE
        have g5 : y * (y + E) ≤ E * (y + E) := Int.mul_le_mul_of_nonneg_right (by omega) (by omega)
        have g6 : y * (y + E) = (y + E) * y := Int.mul_comm _ _
        omega
      · have h1' : E = 1 := by omega
        have hy' : y = 0 := by omega
        have g4 : (0 + E) * (0 + F) = E * F := by rw [Int.zero_add, Int.zero_add]
        rw [hy'] at w1 he g1
        simp at g1
        omega
  obtain ⟨t1, t2⟩ := h.short hx hy
  rcases h.pat with ⟨hs, p1, p2, p3, p4⟩ | ⟨hs, p1, p2, p3, p4⟩
  · have m1 : D * x ≤ x0 := by
      rw [hs, Int.one_mul] at b1
      have := Int.mul_nonpos_of_nonpos_of_nonneg p2 hy
      omega
    refine fin D C p4 p3 (Int.mul_comm _ _) ?_ m1 ?_
    · rcases hlt with ⟨k1, k2⟩ | ⟨k1, k2, -⟩
      · exact Or.inl (by omega)
      · exact Or.inr k2
    · intro _
      rcases hlt with ⟨k1, k2⟩ | ⟨k1, k2, k3⟩
      · exact Or.inr (by omega)
      · exact Or.inl k3
  · have m1 : C * x ≤ x0 := by
      rw [hs] at b2
      have := Int.mul_nonpos_of_nonpos_of_nonneg p1 hy
      omega
    refine fin C D p3 p4 rfl ?_ m1 ?_
    · rcases hlt with ⟨k1, k2⟩ | ⟨k1, k2, -⟩
      · exact Or.inl (by omega)
      · omega
    · intro _
      rcases hlt with ⟨k1, k2⟩ | ⟨k1, k2, k3⟩
      · exact Or.inr (by omega)
      · omega
structure LS (x0 y0 A B C D x y : Int) : Prop where
  li : ∃ s, LI x0 y0 s A B C D x y
  y0' : 0 ≤ y
  yx : y ≤ x
  st : (A = 1 ∧ B = 0 ∧ C = 0 ∧ D = 1 ∧ x = x0 ∧ y = y0) ∨
    (y + C < x + A ∧ y + D < x + B ∧ A.natAbs < 2147483648 ∧ B.natAbs < 2147483648 ∧ C.natAbs < 2147483648 ∧ D.natAbs < 2147483648)
theorem LS.start {x0 y0 : Int} (h : 0 ≤ y0) (h' : y0 ≤ x0) : LS x0 y0 1 0 0 1 x0 y0 :=
  ⟨⟨1, LI.start (by omega) h⟩, h, h', Or.inl ⟨rfl, rfl, rfl, rfl, rfl, rfl⟩⟩
theorem short_of {c x : Nat} (hx : 536870912 < x) (h : c * x < 1152921504606846976) : c < 2147483648 := by
  rcases Nat.lt_or_ge c 2147483648 with g | g
  · exact g
  · have := Nat.mul_le_mul g (Nat.le_of_lt hx)
    have h2 : 2147483648 * 536870912 ≤ c * x := this
    omega
theorem long_of {x0 y : Int} (hy : 0 ≤ y) (h0 : 576460752303423488 ≤ x0) (h : x0 < 2 * (y * y)) : 536870912 < y := by
  rcases Int.lt_or_le 536870912 y with g | g
  · exact g
  · have h1 : y * y ≤ 536870912 * y := Int.mul_le_mul_of_nonneg_right g hy
    omega
theorem LS.step {x0 y0 A B C D x y q : Int} (h : LS x0 y0 A B C D x y) (hx0 : 576460752303423488 ≤ x0) (hx1 : x0 < 1152921504606846976) (hy0 : 0 ≤ y0) (hyx0 : y0 ≤ x0) (hC : 0 < y + C) (hD : 0 < y + D)
    (h1 : q * (y + C) ≤ x + A) (h2 : x + A < q * (y + C) + (y + C)) (h3 : q * (y + D) ≤ x + B) (h4 : x + B < q * (y + D) + (y + D)) (hq : 0 ≤ q) :
    LS x0 y0 C D (A - q * C) (B - q * D) y (x - q * y) ∧ x - q * y < y ∧ (x - q * y + (A - q * C) < y + C ∧ x - q * y + (B - q * D) < y + D) := by
  obtain ⟨⟨s, li⟩, hy, hyx, hst⟩ := h
  have hx : 0 ≤ x := by omega
  have hlong : x0 < 2 * (y * y) := li.long hC hD h1 h2 h3 h4 (by omega) hy0 hyx0 hx hy (by
    rcases hst with ⟨-, -, k3, k4, -, k6⟩ | ⟨k1, k2, -⟩
    · exact Or.inr ⟨k3, k4, k6⟩
    · exact Or.inl ⟨k1, k2⟩)
  have hl29 := long_of hy (by omega) hlong
  have li' := li.step hC hD h1 h3 hq
  have eC : q * (y + C) = q * y + q * C := Int.mul_add _ _ _
  have eD : q * (y + D) = q * y + q * D := Int.mul_add _ _ _
  have hqy : 0 ≤ x - q * y ∧ x - q * y < y := by
    rcases li.pat with ⟨-, p1, p2, p3, p4⟩ | ⟨-, p1, p2, p3, p4⟩
    · have m1 : 0 ≤ q * D := Int.mul_nonneg hq p4
      have m2 : q * C ≤ 0 := Int.mul_nonpos_of_nonneg_of_nonpos hq p3
      constructor <;> omega
    · have m1 : 0 ≤ q * C := Int.mul_nonneg hq p3
      have m2 : q * D ≤ 0 := Int.mul_nonpos_of_nonneg_of_nonpos hq p4
      constructor <;> omega
  obtain ⟨t1, t2⟩ := li'.short hy hqy.1
  have n1 : ((-s) * x0).natAbs = x0.natAbs := by
    rcases li.pat with ⟨e, -⟩ | ⟨e, -⟩ <;> rw [e] <;> simp
  have n2 : ((-s) * y0).natAbs = y0.natAbs := by
    rcases li.pat with ⟨e, -⟩ | ⟨e, -⟩ <;> rw [e] <;> simp
  rw [n1] at t1
  rw [n2] at t2
  obtain ⟨u1, u2⟩ := li.short hx hy
  have n3 : (s * x0).natAbs = x0.natAbs := by
    rcases li.pat with ⟨e, -⟩ | ⟨e, -⟩ <;> rw [e] <;> simp
  have n4 : (s * y0).natAbs = y0.natAbs := by
    rcases li.pat with ⟨e, -⟩ | ⟨e, -⟩ <;> rw [e] <;> simp
  rw [n3] at u1
  rw [n4] at u2
  refine ⟨⟨⟨-s, li'⟩, hqy.1, by omega, Or.inr ⟨by omega, by omega, ?_, ?_, ?_, ?_⟩⟩, hqy.2, by omega, by omega⟩
  · exact short_of (x := x.natAbs) (by omega) (by omega)
  · exact short_of (x := x.natAbs) (by omega) (by omega)
  · exact short_of (x := y.natAbs) (by omega) (by omega)
  · exact short_of (x := y.natAbs) (by omega) (by omega)
theorem LS.bounds {x0 y0 A B C D x y : Int} (h : LS x0 y0 A B C D x y) (hx1 : x0 < 1152921504606846976) (hy0 : 0 ≤ y0) (hyx0 : y0 ≤ x0) :
    0 ≤ y ∧ y ≤ x ∧ x < 1152921504606846976 ∧ -2147483648 < A ∧ A < 2147483648 ∧ -2147483648 < B ∧ B < 2147483648 ∧ -2147483648 < C ∧ C < 2147483648 ∧ -2147483648 < D ∧ D < 2147483648 ∧ 0 ≤ x + A ∧ 0 ≤ x + B ∧ 0 ≤ y + C ∧ 0 ≤ y + D := by
  obtain ⟨⟨s, li⟩, hy, hyx, hst⟩ := h
  have hxx : x ≤ x0 := by
    rcases hst with ⟨-, -, -, -, e, -⟩ | -
    · omega
    · obtain ⟨u1, u2⟩ := li.short (by omega) hy
      have hdet := li.det
      rcases li.pat with ⟨e, p1, p2, p3, p4⟩ | ⟨e, p1, p2, p3, p4⟩
      · rw [e, Int.one_mul] at u1 u2
        have hD : 0 < D := by
          rcases Int.lt_or_le 0 D with g | g
          · exact g
          · have : D = 0 := by omega
            subst this
            have : 0 ≤ B * C := Int.mul_nonneg_of_nonpos_of_nonpos p2 p3
            simp at hdet
            omega
        have : 1 * x.natAbs ≤ D.natAbs * x.natAbs := Nat.mul_le_mul_right _ (by omega)
        omega
      · have hC : 0 < C := by
          rcases Int.lt_or_le 0 C with g | g
          · exact g
          · have : C = 0 := by omega
            subst this
            have : 0 ≤ A * D := Int.mul_nonneg_of_nonpos_of_nonpos p1 p4
            simp at hdet
            omega
        have : 1 * x.natAbs ≤ C.natAbs * x.natAbs := Nat.mul_le_mul_right _ (by omega)
        have n4 : (s * y0).natAbs = y0.natAbs := by rw [e]; simp
        rw [n4] at u2
        omega
  have h1 := li.nA
  have h2 := li.nB
  have h3 := li.nC
  have h4 := li.nD
  rcases hst with ⟨rfl, rfl, rfl, rfl, -, -⟩ | ⟨-, -, b1, b2, b3, b4⟩ <;> omega
theorem LS.ypos {x0 y0 A B C D x y : Int} (h : LS x0 y0 A B C D x y) (hC : y + C ≠ 0) (hD : y + D ≠ 0) : 0 < y + C ∧ 0 < y + D ∧ 0 < y := by
  obtain ⟨⟨s, li⟩, hy, -, -⟩ := h
  have h3 := li.nC
  have h4 := li.nD
  rcases li.pat with ⟨e, p1, p2, p3, p4⟩ | ⟨e, p1, p2, p3, p4⟩ <;> omega
def FacOk (a b A B C D : Int) : Prop :=
  B = 0 ∨ (((0 ≤ A ∧ B ≤ 0 ∧ C ≤ 0 ∧ 0 ≤ D) ∨ (A ≤ 0 ∧ 0 ≤ B ∧ 0 ≤ C ∧ D ≤ 0)) ∧ A.natAbs < 2147483648 ∧ B.natAbs < 2147483648 ∧ C.natAbs < 2147483648 ∧ D.natAbs < 2147483648 ∧
    0 ≤ C * a + D * b ∧ C * a + D * b < A * a + B * b ∧ A * a + B * b ≤ b ∧ Int.gcd (A * a + B * b) (C * a + D * b) = Int.gcd a b)
structure LT (a b x0 y0 A B C D x y : Int) : Prop where
  ls : LS x0 y0 A B C D x y
  fac : (A = 1 ∧ B = 0 ∧ C = 0 ∧ D = 1) ∨ (0 ≤ C * a + D * b ∧ C * a + D * b < A * a + B * b ∧ A * a + B * b ≤ b)
theorem LT.ok {a b x0 y0 A B C D x y : Int} (h : LT a b x0 y0 A B C D x y) : FacOk a b A B C D := by
  obtain ⟨⟨⟨s, li⟩, hy, hyx, hst⟩, hf⟩ := h
  rcases hf with ⟨-, e, -⟩ | ⟨f1, f2, f3⟩
  · exact Or.inl e
  · rcases hst with ⟨-, e, -⟩ | ⟨-, -, b1, b2, b3, b4⟩
    · exact Or.inl e
    · refine Or.inr ⟨?_, b1, b2, b3, b4, f1, f2, f3, li.gcd a b⟩
      rcases li.pat with ⟨-, p⟩ | ⟨-, p⟩
      · exact Or.inl p
      · exact Or.inr p
theorem LT.step {a b x0 y0 A B C D x y q P al be : Int} (h : LT a b x0 y0 A B C D x y) (hx0 : 576460752303423488 ≤ x0) (hx1 : x0 < 1152921504606846976) (hy0 : 0 ≤ y0) (hyx0 : y0 ≤ x0) (hC : 0 < y + C) (hD : 0 < y + D)
    (h1 : q * (y + C) ≤ x + A) (h2 : x + A < q * (y + C) + (y + C)) (h3 : q * (y + D) ≤ x + B) (h4 : x + B < q * (y + D) + (y + D)) (hq : 0 ≤ q)
    (ha : a = x0 * P + al) (hb : b = y0 * P + be) (a1 : 0 ≤ al) (a2 : al < P) (a3 : 0 ≤ be) (a4 : be < P) :
    LT a b x0 y0 C D (A - q * C) (B - q * D) y (x - q * y) ∧ x - q * y < y := by
  obtain ⟨ls', hlt, k1, k2⟩ := h.ls.step hx0 hx1 hy0 hyx0 hC hD h1 h2 h3 h4 hq
  refine ⟨⟨ls', Or.inr ?_⟩, hlt⟩
  obtain ⟨s', li'⟩ := ls'.li
  obtain ⟨r1, -, r3⟩ := li'.rest ha hb a1 (by omega) a3 (by omega) k1 k2
  refine ⟨r1, r3 (by omega), ?_⟩
  rcases h.fac with ⟨-, -, rfl, rfl⟩ | ⟨f1, f2, f3⟩
  · omega
  · omega
theorem quo_bounds {u v : Int} (hv : 0 < v) (hu : 0 ≤ u) : u.tdiv v * v ≤ u ∧ u < u.tdiv v * v + v ∧ 0 ≤ u.tdiv v ∧ u.tdiv v ≤ u := by
  rw [Int.tdiv_eq_ediv_of_nonneg hu]
  have e := Int.mul_ediv_add_emod u v
  have m0 := Int.emod_nonneg u (by omega : v ≠ 0)
  have m1 := Int.emod_lt_of_pos u hv
  rw [Int.mul_comm] at e
  refine ⟨by omega, by omega, Int.ediv_nonneg hu (by omega), Int.ediv_le_self v hu⟩
end Go.Proofs.YtmfnpipmbpnfbaaGreatDoor
