/- Lehmer's steps on the leading parts of two long numbers in memory. -/
import Derived.Test.YtabaknkjcoibpaaGreatDoorM11
import Derived.Test.YtabaknkjcoibpaaGreatDoorM07

namespace Go.Proofs.YtabaknkjcoibpaaGreatDoor
open Go.RowKit

/-- What Lehmer's steps return. -/
def RetF (a b : Int) (w : World) (e : Ending) (w' : World) : Prop :=
  ∃ A B C D : Int, e = .returned (.agg #[.int .i64 A, .int .i64 B, .int .i64 C, .int .i64 D]) ∧ FacOk a b A B C D ∧ Below w.heap.size w w'

/-- The state of the loop. -/
def LeadRel (w : World) (g : Nat) (a b x0 y0 : Int) (s t : Value) (wr : World) : Prop :=
  ∃ A B C D x y : Int, s = .int .i64 x ∧ t = .int .i64 y ∧ Hid (LT a b x0 y0 A B C D x y) ∧ FB w.heap.size 0 0 0 0 wr ∧ FB g A B C D wr ∧ Hid (Below w.heap.size w wr)

set_option maxRecDepth 100000 in
set_option maxHeartbeats 4000000 in
theorem leading_any (A B : Option Addr) (n m ca cb : Nat) (f g : Nat → Nat) (w : World) (hn : n ≤ 999999) (hm : 2 < m) (hmn : m ≤ n) (hA : Dg w A n f) (hB : Dg w B m g)
    (hf : ∀ i, i < n → f i < W) (hg : ∀ i, i < m → g i < W) (hfn : Nrm f n) (hle : V g m ≤ V f n) :
    Calls Tryz.prog 265 #[.slice A n ca, .slice B m cb] w (RetF ((V f n : Nat) : Int) ((V g m : Nat) : Int) w) := by
  obtain ⟨r, r1, r2, r3, r4, -⟩ := bits_any A n ca f w (by omega) (by omega) hA hf hfn
  obtain ⟨cut, hcut⟩ : ∃ cut, cut = r - 60 := ⟨_, rfl⟩
  have HBt : Hid (∀ wx, Below w.heap.size w wx → Calls Tryz.prog 279 #[.slice A n ca] wx fun e w' => e = .returned (.int .i64 ((cut : Int) + 60)) ∧ wx = w') := fun wx hx => by
    obtain ⟨r', q1, q2, q3, q4, q5⟩ := bits_any A n ca f wx (by omega) (by omega) (hA.keep hx) hf hfn
    have e : r' = r := by
      have h1 : r - 1 < r' := (Nat.pow_lt_pow_iff_right (by omega : 1 < 2)).1 (Nat.lt_of_le_of_lt r3 q4)
      have h2 : r' - 1 < r := (Nat.pow_lt_pow_iff_right (by omega : 1 < 2)).1 (Nat.lt_of_le_of_lt q3 r4)
      omega
    subst e
    rw [show (cut : Int) + 60 = (r' : Int) from by omega]
    exact q5
  obtain ⟨P, hP⟩ : ∃ P, P = 2 ^ cut := ⟨_, rfl⟩
  have hP0 : 0 < P := by rw [hP]; exact two_pow_pos cut
  obtain ⟨X, hX⟩ : ∃ X, X = V f n / P := ⟨_, rfl⟩
  obtain ⟨Y, hY⟩ : ∃ Y, Y = V g m / P := ⟨_, rfl⟩
  have hX1 : X < 1152921504606846976 := by
    rw [hX, Nat.div_lt_iff_lt_mul hP0, hP, show (1152921504606846976 : Nat) = 2 ^ 60 from rfl, ← Nat.pow_add, show 60 + cut = r from by omega]
    exact r4
  have hX0 : 576460752303423488 ≤ X := by
    rw [hX, Nat.le_div_iff_mul_le hP0, hP, show (576460752303423488 : Nat) = 2 ^ 59 from rfl, ← Nat.pow_add, show 59 + cut = r - 1 from by omega]
    exact r3
  have hYX : Y ≤ X := by rw [hX, hY]; exact Nat.div_le_div_right hle
  have HWa : Hid (∀ wx, Below w.heap.size w wx → Calls Tryz.prog 280 #[.slice A n ca, .int .i64 (cut : Int)] wx fun e w' => e = .returned (.int .i64 (X : Int)) ∧ Drn wx w') := fun wx hx =>
    window_any A n ca cut (cut / 32) (cut % 32) X f wx (by omega) (by omega) (by omega) (hA.keep hx) hf (by omega) (by rw [hX, hP]) hX1
  have HWb : Hid (∀ wx, Below w.heap.size w wx → Calls Tryz.prog 280 #[.slice B m cb, .int .i64 (cut : Int)] wx fun e w' => e = .returned (.int .i64 (Y : Int)) ∧ Drn wx w') := fun wx hx =>
    window_any B m cb cut (cut / 32) (cut % 32) Y g wx (by omega) (by omega) (by omega) (hB.keep hx) hg (by omega) (by rw [hY, hP]) (by omega)
  have ha : ((V f n : Nat) : Int) = (X : Int) * (P : Int) + ((V f n % P : Nat) : Int) := by
    have := Nat.div_add_mod (V f n) P
    rw [← hX, Nat.mul_comm] at this
    rw [← Int.natCast_mul, ← Int.natCast_add, this]
  have hb : ((V g m : Nat) : Int) = (Y : Int) * (P : Int) + ((V g m % P : Nat) : Int) := by
    have := Nat.div_add_mod (V g m) P
    rw [← hY, Nat.mul_comm] at this
    rw [← Int.natCast_mul, ← Int.natCast_add, this]
  have ma := Nat.mod_lt (V f n) hP0
  have mb := Nat.mod_lt (V g m) hP0
  have hcb : cut ≤ 40000000 := by omega
  generalize ((V f n : Nat) : Int) = a at *
  generalize ((V g m : Nat) : Int) = b at *
  have HST : Hid (∀ A B C D x y q : Int, LT a b X Y A B C D x y → 0 < y + C → 0 < y + D → q * (y + C) ≤ x + A → x + A < q * (y + C) + (y + C) → q * (y + D) ≤ x + B → x + B < q * (y + D) + (y + D) → 0 ≤ q →
      LT a b X Y C D (A - q * C) (B - q * D) y (x - q * y) ∧ x - q * y < y) := fun A B C D x y q h1 h2 h3 h4 h5 h6 h7 h8 =>
    h1.step (by omega) (by omega) (by omega) (by omega) h2 h3 h4 h5 h6 h7 h8 ha hb (by omega) (by omega) (by omega) (by omega)
  have HBD : Hid (∀ A B C D x y : Int, LS X Y A B C D x y → 0 ≤ y ∧ y ≤ x ∧ x < 1152921504606846976 ∧ -2147483648 < A ∧ A < 2147483648 ∧ -2147483648 < B ∧ B < 2147483648 ∧ -2147483648 < C ∧ C < 2147483648 ∧ -2147483648 < D ∧ D < 2147483648 ∧ 0 ≤ x + A ∧ 0 ≤ x + B ∧ 0 ≤ y + C ∧ 0 ≤ y + D) := fun A B C D x y h =>
    h.bounds (by omega) (by omega) (by omega)
  have HS0 : Hid (LT a b X Y 1 0 0 1 X Y) := ⟨LS.start (by omega) (by omega), Or.inl ⟨rfl, rfl, rfl, rfl⟩⟩
  clear ha hb ma mb hX hY hP hP0 hX0 hX1 hYX r1 r2 r3 r4 hcut hle hfn hf hg
  go_enter Tryz.func265, Tryz.ntmps265
  go_wp2_with fail
  (with_reducible refine (HBt.out _ (below_alloc _ _)).mono ?_)
  rintro e w1 ⟨rfl, rfl⟩
  go_wp2_with fail
  (with_reducible refine (HWa.out _ (below_alloc _ _)).mono ?_)
  rintro e w1 ⟨rfl, hd1⟩
  have F1 := (FB.new w 0 0 0 0 287 rfl).keep (hd1.below _)
  have HB1 := Lib.hid ((below_alloc w (.cells #[.int .i64 0, .int .i64 0, .int .i64 0, .int .i64 0] 287)).trans (hd1.below _))
  clear hd1
  go_wp2_with fail
  (with_reducible refine (HWb.out _ HB1.out).mono ?_)
  rintro e w2 ⟨rfl, hd2⟩
  have F2 := F1.keep (hd2.below _)
  have HB2 := Lib.hid (HB1.out.trans (hd2.below _))
  have hne : w.heap.size ≠ w2.heap.size := by have := F2.lt; omega
  have hlw : w.heap.size ≤ w2.heap.size := HB2.out.size
  clear hd2 F1 HB1
  go_wp2_with fail
  generalize hg0 : w2.heap.size = g0 at *
  go_loopw [6, 7] (fun s t wr => LeadRel w g0 a b X Y s t wr) (fun _ t _ => (intOf t).toNat)
  case atStart => exact ⟨1, 0, 0, 1, X, Y, rfl, rfl, HS0, F2.keep (below_alloc _ _), FB.new w2 1 0 0 1 287 hg0.symm, Lib.hid (HB2.out.alloc HB2.out.size _)⟩
  case round =>
    obtain ⟨A', B', C', D', x, y, rfl, rfl, hlt, FR, FG, hbel⟩ := hrel
    have hbd := HBD.out _ _ _ _ _ _ hlt.out.ls
    obtain ⟨b1, b2, b3, b4, b5, b6, b7, b8, b9, b10, b11, b12, b13, b14, b15⟩ := hbd
    have HFR := Lib.hid FR
    have HFG := Lib.hid FG
    obtain ⟨r0, r1, r2, r3, rf0, rf1, rf2, rf3, rlt⟩ := FR
    obtain ⟨c0, c1, c2, c3, cf0, cf1, cf2, cf3, clt⟩ := FG
    by_cases z1 : y + C' = 0
    · have z1' : (y + C' != 0) = false := by simp [z1]
      clear F2 HB2 HS0 HST HBD HWa HWb HBt
      go_wp2_with fail
      exact bodyPost_ret (v := .agg #[.int .i64 A', .int .i64 B', .int .i64 C', .int .i64 D']) (by simp [results, Tryz.results265, go_sem, r0, r1, r2, r3]) rfl
        ⟨A', B', C', D', rfl, hlt.out.ok, (((hbel.out.setCell (Nat.le_refl _) _).setCell (Nat.le_refl _) _).setCell (Nat.le_refl _) _).setCell (Nat.le_refl _) _⟩
    · have z1' : (y + C' != 0) = true := by simp [z1]
      by_cases z2 : y + D' = 0
      · have z2' : (y + D' != 0) = false := by simp [z2]
        clear F2 HB2 HS0 HST HBD HWa HWb HBt
        go_wp2_with fail
        exact bodyPost_ret (v := .agg #[.int .i64 A', .int .i64 B', .int .i64 C', .int .i64 D']) (by simp [results, Tryz.results265, go_sem, r0, r1, r2, r3]) rfl
          ⟨A', B', C', D', rfl, hlt.out.ok, (((hbel.out.setCell (Nat.le_refl _) _).setCell (Nat.le_refl _) _).setCell (Nat.le_refl _) _).setCell (Nat.le_refl _) _⟩
      · have z2' : (y + D' != 0) = true := by simp [z2]
        obtain ⟨p1, p2, p3⟩ := hlt.out.ls.ypos z1 z2
        have hq1 := quo_bounds p1 b12
        have hq2 := quo_bounds p2 b13
        rw [Int.tdiv_eq_ediv_of_nonneg b12] at hq1
        rw [Int.tdiv_eq_ediv_of_nonneg b13] at hq2
        obtain ⟨q, hq⟩ : ∃ q, (x + A') / (y + C') = q := ⟨_, rfl⟩
        obtain ⟨q', hq'⟩ : ∃ q', (x + B') / (y + D') = q' := ⟨_, rfl⟩
        rw [hq] at hq1
        rw [hq'] at hq2
        obtain ⟨e1, e2, e3, e4⟩ := hq1
        obtain ⟨g1, g2, g3, g4⟩ := hq2
        have E := Lib.hid (And.intro e1 e2)
        have G := Lib.hid (And.intro g1 g2)
        clear e1 e2 g1 g2 F2 HB2 HS0 HWa HWb HBt
        by_cases hqq : q = q'
        · subst hqq
          obtain ⟨hl', hy'⟩ := HST.out _ _ _ _ _ _ q hlt.out p1 p2 E.out.1 E.out.2 G.out.1 G.out.2 e3
          have hbd' := HBD.out _ _ _ _ _ _ hl'.ls
          clear HST HBD E G
          have hqb : (q != q) = false := by simp
          obtain ⟨m1, hm1⟩ : ∃ m1, q * C' = m1 := ⟨_, rfl⟩
          obtain ⟨m2, hm2⟩ : ∃ m2, q * D' = m2 := ⟨_, rfl⟩
          obtain ⟨m3, hm3⟩ : ∃ m3, q * y = m3 := ⟨_, rfl⟩
          rw [hm1, hm2, hm3] at hbd' hl'
          have HL := Lib.hid hl'
          clear hl'
          rw [hm3] at hy'
          obtain ⟨d1, d2, d3, d4, d5, d6, d7, d8, d9, d10, d11, d12, d13, d14, d15⟩ := hbd'
          go_wp2_with fail
          exact ⟨⟨C', D', A' - m1, B' - m2, y, x - m3, rfl, rfl, HL, (((HFR.out.far hne _ _).far hne _ _).far hne _ _).far hne _ _, HFG.out.set _ _ _ _, Lib.hid ((((hbel.out.setCell hlw _).setCell hlw _).setCell hlw _).setCell hlw _)⟩, by simp only [intOf]; omega⟩
        · have hqb : (q != q') = true := by simp [hqq]
          clear HST HBD E G
          go_wp2_with fail
          exact bodyPost_ret (v := .agg #[.int .i64 A', .int .i64 B', .int .i64 C', .int .i64 D']) (by simp [results, Tryz.results265, go_sem, r0, r1, r2, r3]) rfl
            ⟨A', B', C', D', rfl, hlt.out.ok, (((hbel.out.setCell (Nat.le_refl _) _).setCell (Nat.le_refl _) _).setCell (Nat.le_refl _) _).setCell (Nat.le_refl _) _⟩

end Go.Proofs.YtabaknkjcoibpaaGreatDoor
