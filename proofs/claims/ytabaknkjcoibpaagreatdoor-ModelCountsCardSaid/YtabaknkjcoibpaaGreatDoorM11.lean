/- Lehmer's steps of Euclid's algorithm: what the factors are worth, as plain facts. The state of the loop of Lehmer's method, as plain facts. The leading parts of two long numbers, and Lehmer's steps on them. -/
import Derived.Test.YtabaknkjcoibpaaGreatDoorM00
import Derived.Test.YtabaknkjcoibpaaGreatDoorM10

namespace Go.Proofs.YtabaknkjcoibpaaGreatDoor

/-- The state after some steps: x and y are the combinations of x0 and y0 with the factors A, B and C, D. -/
structure LI (x0 y0 s A B C D x y : Int) : Prop where
  hx : x = A * x0 + B * y0
  hy : y = C * x0 + D * y0
  det : A * D - B * C = s
  pat : (s = 1 ∧ 0 ≤ A ∧ B ≤ 0 ∧ C ≤ 0 ∧ 0 ≤ D) ∨ (s = -1 ∧ A ≤ 0 ∧ 0 ≤ B ∧ 0 ≤ C ∧ D ≤ 0)
  nA : 0 ≤ x + A
  nB : 0 ≤ x + B
  nC : 0 ≤ y + C
  nD : 0 ≤ y + D

theorem LI.start {x0 y0 : Int} (h : 0 ≤ x0) (h' : 0 ≤ y0) : LI x0 y0 1 1 0 0 1 x0 y0 :=
  ⟨by omega, by omega, by omega, Or.inl ⟨rfl, by omega, by omega, by omega, by omega⟩, by omega, by omega, by omega, by omega⟩

/-- x0 and y0 from the state. -/
theorem LI.back {x0 y0 s A B C D x y : Int} (h : LI x0 y0 s A B C D x y) : s * x0 = D * x - B * y ∧ s * y0 = A * y - C * x := by
  obtain ⟨hx, hy, hd, -⟩ := h
  subst hx hy hd
  constructor
  · simp only [Int.mul_add, Int.sub_mul, Int.mul_assoc]
    have e1 : D * (B * y0) = B * (D * y0) := Int.mul_left_comm _ _ _
    have e2 : D * (A * x0) = A * (D * x0) := Int.mul_left_comm _ _ _
    omega
  · simp only [Int.mul_add, Int.sub_mul, Int.mul_assoc]
    have e1 : C * (A * x0) = A * (C * x0) := Int.mul_left_comm _ _ _
    have e2 : C * (B * y0) = B * (C * y0) := Int.mul_left_comm _ _ _
    omega

/-- One step. -/
theorem LI.step {x0 y0 s A B C D x y q : Int} (h : LI x0 y0 s A B C D x y) (hC : 0 < y + C) (hD : 0 < y + D) (h1 : q * (y + C) ≤ x + A) (h2 : q * (y + D) ≤ x + B) (hq : 0 ≤ q) :
    LI x0 y0 (-s) C D (A - q * C) (B - q * D) y (x - q * y) := by
  obtain ⟨hx, hy, hd, hp, -, -, -, -⟩ := h
  have e1 : q * (y + C) = q * y + q * C := Int.mul_add _ _ _
  have e2 : q * (y + D) = q * y + q * D := Int.mul_add _ _ _
  refine ⟨hy, ?_, ?_, ?_, by omega, by omega, by omega, by omega⟩
  · rw [hx, hy, Int.sub_mul, Int.sub_mul, Int.mul_add, Int.mul_assoc, Int.mul_assoc]
    omega
  · have e3 : C * (B - q * D) = C * B - C * (q * D) := Int.mul_sub _ _ _
    have e4 : D * (A - q * C) = D * A - D * (q * C) := Int.mul_sub _ _ _
    have e5 : C * (q * D) = D * (q * C) := by rw [Int.mul_left_comm, Int.mul_comm C D, Int.mul_left_comm]
    have e6 : C * B = B * C := Int.mul_comm _ _
    have e7 : D * A = A * D := Int.mul_comm _ _
    omega
  · rcases hp with ⟨rfl, p1, p2, p3, p4⟩ | ⟨rfl, p1, p2, p3, p4⟩
    · have m1 : q * C ≤ 0 := Int.mul_nonpos_of_nonneg_of_nonpos hq p3
      have m2 : 0 ≤ q * D := Int.mul_nonneg hq p4
      exact Or.inr ⟨rfl, p3, p4, by omega, by omega⟩
    · have m1 : 0 ≤ q * C := Int.mul_nonneg hq p3
      have m2 : q * D ≤ 0 := Int.mul_nonpos_of_nonneg_of_nonpos hq p4
      exact Or.inl ⟨rfl, p3, p4, by omega, by omega⟩

/-- The new factors are short: their product with y is at most the greater of the two numbers. -/
theorem LI.short {x0 y0 s A B C D x y : Int} (h : LI x0 y0 s A B C D x y) (hx : 0 ≤ x) (hy : 0 ≤ y) :
    D.natAbs * x.natAbs ≤ (s * x0).natAbs ∧ C.natAbs * x.natAbs ≤ (s * y0).natAbs := by
  obtain ⟨b1, b2⟩ := h.back
  rw [← Int.natAbs_mul, ← Int.natAbs_mul]
  rcases h.pat with ⟨-, p1, p2, p3, p4⟩ | ⟨-, p1, p2, p3, p4⟩
  · have m1 := Int.mul_nonneg p4 hx
    have m2 := Int.mul_nonpos_of_nonpos_of_nonneg p2 hy
    have m3 := Int.mul_nonpos_of_nonpos_of_nonneg p3 hx
    have m4 := Int.mul_nonneg p1 hy
    constructor <;> omega
  · have m1 := Int.mul_nonpos_of_nonpos_of_nonneg p4 hx
    have m2 := Int.mul_nonneg p2 hy
    have m3 := Int.mul_nonneg p3 hx
    have m4 := Int.mul_nonpos_of_nonpos_of_nonneg p1 hy
    constructor <;> omega

/-- What the factors make of the two numbers themselves, of which x0 and y0 are the leading parts. -/
theorem LI.rest {x0 y0 s A B C D x y P a b al be : Int} (h : LI x0 y0 s A B C D x y) (ha : a = x0 * P + al) (hb : b = y0 * P + be) (h1 : 0 ≤ al) (h2 : al ≤ P) (h3 : 0 ≤ be) (h4 : be ≤ P) (hlt : y + C < x + A) (hlt' : y + D < x + B) :
    0 ≤ C * a + D * b ∧ C * a + D * b ≤ A * a + B * b ∧ (0 < P → C * a + D * b < A * a + B * b) := by
  have er : A * a + B * b = x * P + (A * al + B * be) := by
    rw [ha, hb, h.hx, Int.mul_add, Int.mul_add, Int.add_mul, ← Int.mul_assoc, ← Int.mul_assoc]
    omega
  have er' : C * a + D * b = y * P + (C * al + D * be) := by
    rw [ha, hb, h.hy, Int.mul_add, Int.mul_add, Int.add_mul, ← Int.mul_assoc, ← Int.mul_assoc]
    omega
  have hP : 0 ≤ P := by omega
  have up : ∀ {k t : Int}, 0 ≤ k → 0 ≤ t → t ≤ P → 0 ≤ k * t ∧ k * t ≤ k * P := fun hk ht hp => ⟨Int.mul_nonneg hk ht, Int.mul_le_mul_of_nonneg_left hp hk⟩
  have dn : ∀ {k t : Int}, k ≤ 0 → 0 ≤ t → t ≤ P → k * P ≤ k * t ∧ k * t ≤ 0 := fun hk ht hp => ⟨Int.mul_le_mul_of_nonpos_left hk hp, Int.mul_nonpos_of_nonpos_of_nonneg hk ht⟩
  have key : ∀ {u v : Int}, u < v → u * P ≤ v * P ∧ (0 < P → u * P < v * P) := fun huv => ⟨Int.mul_le_mul_of_nonneg_right (by omega) hP, fun hp => Int.mul_lt_mul_of_pos_right huv hp⟩
  have nn : ∀ {u : Int}, 0 ≤ u → 0 ≤ u * P := fun hu => Int.mul_nonneg hu hP
  have d1 : (y + C) * P = y * P + C * P := Int.add_mul _ _ _
  have d2 : (y + D) * P = y * P + D * P := Int.add_mul _ _ _
  have d3 : (x + A) * P = x * P + A * P := Int.add_mul _ _ _
  have d4 : (x + B) * P = x * P + B * P := Int.add_mul _ _ _
  have k1 := key hlt
  have k2 := key hlt'
  have n1 := nn h.nC
  have n2 := nn h.nD
  rcases h.pat with ⟨-, p1, p2, p3, p4⟩ | ⟨-, p1, p2, p3, p4⟩
  · have u1 := up p1 h1 h2
    have u2 := dn p2 h3 h4
    have u3 := dn p3 h1 h2
    have u4 := up p4 h3 h4
    refine ⟨by omega, by omega, fun hp => ?_⟩
    have := k2.2 hp
    omega
  · have u1 := dn p1 h1 h2
    have u2 := up p2 h3 h4
    have u3 := up p3 h1 h2
    have u4 := dn p4 h3 h4
    refine ⟨by omega, by omega, fun hp => ?_⟩
    have := k1.2 hp
    omega

/-- The common divisor stays. -/
theorem LI.gcd {x0 y0 s A B C D x y : Int} (h : LI x0 y0 s A B C D x y) (a b : Int) : Int.gcd (A * a + B * b) (C * a + D * b) = Int.gcd a b := by
  have hs : s = 1 ∨ s = -1 := by rcases h.pat with ⟨e, -⟩ | ⟨e, -⟩ <;> simp [e]
  obtain ⟨r, hr⟩ : ∃ r, A * a + B * b = r := ⟨_, rfl⟩
  obtain ⟨r', hr'⟩ : ∃ r', C * a + D * b = r' := ⟨_, rfl⟩
  rw [hr, hr']
  have e1 : s * a = D * r - B * r' := by
    rw [← hr, ← hr', ← h.det, Int.sub_mul, Int.mul_add, Int.mul_add, Int.mul_assoc, Int.mul_assoc]
    have f1 : D * (A * a) = A * (D * a) := Int.mul_left_comm _ _ _
    have f2 : D * (B * b) = B * (D * b) := Int.mul_left_comm _ _ _
    omega
  have e2 : s * b = A * r' - C * r := by
    rw [← hr, ← hr', ← h.det, Int.sub_mul, Int.mul_add, Int.mul_add, Int.mul_assoc, Int.mul_assoc]
    have f1 : C * (A * a) = A * (C * a) := Int.mul_left_comm _ _ _
    have f2 : C * (B * b) = B * (C * b) := Int.mul_left_comm _ _ _
    omega
  have back : ∀ {u v : Int} {d : Int}, s * u = v → d ∣ v → d ∣ u := fun {u v d} e hd => by
    rcases hs with k | k
    · rw [k, Int.one_mul] at e
      rw [e]
      exact hd
    · rw [k, Int.neg_mul, Int.one_mul] at e
      rw [show u = -v by omega]
      exact Int.dvd_neg.2 hd
  apply Nat.dvd_antisymm
  · have g1 := Int.gcd_dvd_left r r'
    have g2 := Int.gcd_dvd_right r r'
    exact Int.dvd_gcd (back e1 (Int.dvd_sub (Int.dvd_mul_of_dvd_right g1) (Int.dvd_mul_of_dvd_right g2))) (back e2 (Int.dvd_sub (Int.dvd_mul_of_dvd_right g2) (Int.dvd_mul_of_dvd_right g1)))
  · have g1 := Int.gcd_dvd_left a b
    have g2 := Int.gcd_dvd_right a b
    refine Int.dvd_gcd ?_ ?_
    · rw [← hr]
      exact Int.dvd_add (Int.dvd_mul_of_dvd_right g1) (Int.dvd_mul_of_dvd_right g2)
    · rw [← hr']
      exact Int.dvd_add (Int.dvd_mul_of_dvd_right g1) (Int.dvd_mul_of_dvd_right g2)

/-- Both quotients agree: then y is long. -/
theorem LI.long {x0 y0 s A B C D x y q : Int} (h : LI x0 y0 s A B C D x y) (hC : 0 < y + C) (hD : 0 < y + D) (h1 : q * (y + C) ≤ x + A) (h2 : x + A < q * (y + C) + (y + C)) (h3 : q * (y + D) ≤ x + B) (h4 : x + B < q * (y + D) + (y + D))
    (hx0 : 0 ≤ x0) (hy0 : 0 ≤ y0) (hyx : y0 ≤ x0) (hx : 0 ≤ x) (hy : 0 ≤ y) (hlt : (y + C < x + A ∧ y + D < x + B) ∨ (C = 0 ∧ D = 1 ∧ y = y0)) : x0 < 2 * (y * y) := by
  obtain ⟨e1, he1⟩ : ∃ e1, x + A = q * (y + C) + e1 := ⟨x + A - q * (y + C), by omega⟩
  obtain ⟨e2, he2⟩ : ∃ e2, x + B = q * (y + D) + e2 := ⟨x + B - q * (y + D), by omega⟩
  have r1 : 0 ≤ e1 := by omega
  have r2 : e1 ≤ y + C - 1 := by omega
  have r3 : 0 ≤ e2 := by omega
  have r4 : e2 ≤ y + D - 1 := by omega
  obtain ⟨b1, b2⟩ := h.back
  -- the difference of the cross products
  have c1 : e1 * (y + D) - e2 * (y + C) = s * x0 + s * y0 + s := by
    have m1 : (x + A) * (y + D) = q * (y + C) * (y + D) + e1 * (y + D) := by rw [he1, Int.add_mul]
    have m2 : (x + B) * (y + C) = q * (y + D) * (y + C) + e2 * (y + C) := by rw [he2, Int.add_mul]
    have m3 : q * (y + C) * (y + D) = q * (y + D) * (y + C) := Int.mul_right_comm _ _ _
    have m4 : (x + A) * (y + D) = x * y + A * y + (x * D + A * D) := by rw [Int.mul_add, Int.add_mul, Int.add_mul]
    have m5 : (x + B) * (y + C) = x * y + B * y + (x * C + B * C) := by rw [Int.mul_add, Int.add_mul, Int.add_mul]
    have m6 : x * D = D * x := Int.mul_comm _ _
    have m7 : x * C = C * x := Int.mul_comm _ _
    have := h.det
    omega
  have u1 : e1 * (y + D) ≤ (y + C - 1) * (y + D) := Int.mul_le_mul_of_nonneg_right r2 (by omega)
  have u2 : e2 * (y + C) ≤ (y + D - 1) * (y + C) := Int.mul_le_mul_of_nonneg_right r4 (by omega)
  have u3 : 0 ≤ e1 * (y + D) := Int.mul_nonneg r1 (by omega)
  have u4 : 0 ≤ e2 * (y + C) := Int.mul_nonneg r3 (by omega)
  have v1 : (y + C - 1) * (y + D) = (y + C) * (y + D) - (y + D) := by rw [Int.sub_mul, Int.one_mul]
  have v2 : (y + D - 1) * (y + C) = (y + C) * (y + D) - (y + C) := by rw [Int.sub_mul, Int.one_mul, Int.mul_comm (y + D)]
  have w1 : x0 + y0 + 1 < (y + C) * (y + D) := by
    rcases h.pat with ⟨e, -⟩ | ⟨e, -⟩
    · rw [e] at c1
      omega
    · rw [e] at c1
      omega
  -- the greater of the two factors
  have fin : ∀ E F : Int, 0 ≤ E → F ≤ 0 → (y + E) * (y + F) = (y + C) * (y + D) → (y + E ≤ x ∨ E = 1) → E * x ≤ x0 → (E = 1 → y = y0 ∨ y + E ≤ x) → x0 < 2 * (y * y) := by
    intro E F hE hF he hor hsx hone
    have g1 : (y + E) * (y + F) ≤ (y + E) * y := Int.mul_le_mul_of_nonneg_left (by omega) (by omega)
    have g2 : (y + E) * y = y * y + E * y := Int.add_mul _ _ _
    by_cases hEy : E ≤ y
    · have g3 : E * y ≤ y * y := Int.mul_le_mul_of_nonneg_right hEy hy
      omega
    · -- E > y: then E (y + E) <= E x <= x0 < (y + E) y, no
      by_cases hc : y + E ≤ x
      · have g4 : E * (y + E) ≤ E * x := Int.mul_le_mul_of_nonneg_left hc hE
        have g5 : y * (y + E) ≤ E * (y + E) := Int.mul_le_mul_of_nonneg_right (by omega) (by omega)
        have g6 : y * (y + E) = (y + E) * y := Int.mul_comm _ _
        omega
      · have h1' : E = 1 := by omega
        have hy' : y = 0 := by omega
        have g4 : (0 + E) * (0 + F) = E * F := by rw [Int.zero_add, Int.zero_add]
        rw [hy'] at w1 he g1
        simp at g1
        omega
  obtain ⟨t1, t2⟩ := h.short hx hy
  rcases h.pat with ⟨hs, p1, p2, p3, p4⟩ | ⟨hs, p1, p2, p3, p4⟩
  · have m1 : D * x ≤ x0 := by
      rw [hs, Int.one_mul] at b1
      have := Int.mul_nonpos_of_nonpos_of_nonneg p2 hy
      omega
    refine fin D C p4 p3 (Int.mul_comm _ _) ?_ m1 ?_
    · rcases hlt with ⟨k1, k2⟩ | ⟨k1, k2, -⟩
      · exact Or.inl (by omega)
      · exact Or.inr k2
    · intro _
      rcases hlt with ⟨k1, k2⟩ | ⟨k1, k2, k3⟩
      · exact Or.inr (by omega)
      · exact Or.inl k3
  · have m1 : C * x ≤ x0 := by
      rw [hs] at b2
      have := Int.mul_nonpos_of_nonpos_of_nonneg p1 hy
      omega
    refine fin C D p3 p4 rfl ?_ m1 ?_
    · rcases hlt with ⟨k1, k2⟩ | ⟨k1, k2, -⟩
      · exact Or.inl (by omega)
      · omega
    · intro _
      rcases hlt with ⟨k1, k2⟩ | ⟨k1, k2, k3⟩
      · exact Or.inr (by omega)
      · omega

end Go.Proofs.YtabaknkjcoibpaaGreatDoor

namespace Go.Proofs.YtabaknkjcoibpaaGreatDoor

/-- The state: no step yet, or at least one, with short factors. -/
structure LS (x0 y0 A B C D x y : Int) : Prop where
  li : ∃ s, LI x0 y0 s A B C D x y
  y0' : 0 ≤ y
  yx : y ≤ x
  st : (A = 1 ∧ B = 0 ∧ C = 0 ∧ D = 1 ∧ x = x0 ∧ y = y0) ∨
    (y + C < x + A ∧ y + D < x + B ∧ A.natAbs < 2147483648 ∧ B.natAbs < 2147483648 ∧ C.natAbs < 2147483648 ∧ D.natAbs < 2147483648)

theorem LS.start {x0 y0 : Int} (h : 0 ≤ y0) (h' : y0 ≤ x0) : LS x0 y0 1 0 0 1 x0 y0 :=
  ⟨⟨1, LI.start (by omega) h⟩, h, h', Or.inl ⟨rfl, rfl, rfl, rfl, rfl, rfl⟩⟩

/-- A factor whose product with a number over 2^29 is under 2^60. -/
theorem short_of {c x : Nat} (hx : 536870912 < x) (h : c * x < 1152921504606846976) : c < 2147483648 := by
  rcases Nat.lt_or_ge c 2147483648 with g | g
  · exact g
  · have := Nat.mul_le_mul g (Nat.le_of_lt hx)
    have h2 : 2147483648 * 536870912 ≤ c * x := this
    omega

theorem long_of {x0 y : Int} (hy : 0 ≤ y) (h0 : 576460752303423488 ≤ x0) (h : x0 < 2 * (y * y)) : 536870912 < y := by
  rcases Int.lt_or_le 536870912 y with g | g
  · exact g
  · have h1 : y * y ≤ 536870912 * y := Int.mul_le_mul_of_nonneg_right g hy
    omega

/-- One step, where both quotients agree. -/
theorem LS.step {x0 y0 A B C D x y q : Int} (h : LS x0 y0 A B C D x y) (hx0 : 576460752303423488 ≤ x0) (hx1 : x0 < 1152921504606846976) (hy0 : 0 ≤ y0) (hyx0 : y0 ≤ x0) (hC : 0 < y + C) (hD : 0 < y + D)
    (h1 : q * (y + C) ≤ x + A) (h2 : x + A < q * (y + C) + (y + C)) (h3 : q * (y + D) ≤ x + B) (h4 : x + B < q * (y + D) + (y + D)) (hq : 0 ≤ q) :
    LS x0 y0 C D (A - q * C) (B - q * D) y (x - q * y) ∧ x - q * y < y ∧ (x - q * y + (A - q * C) < y + C ∧ x - q * y + (B - q * D) < y + D) := by
  obtain ⟨⟨s, li⟩, hy, hyx, hst⟩ := h
  have hx : 0 ≤ x := by omega
  have hlong : x0 < 2 * (y * y) := li.long hC hD h1 h2 h3 h4 (by omega) hy0 hyx0 hx hy (by
    rcases hst with ⟨-, -, k3, k4, -, k6⟩ | ⟨k1, k2, -⟩
    · exact Or.inr ⟨k3, k4, k6⟩
    · exact Or.inl ⟨k1, k2⟩)
  have hl29 := long_of hy (by omega) hlong
  have li' := li.step hC hD h1 h3 hq
  have eC : q * (y + C) = q * y + q * C := Int.mul_add _ _ _
  have eD : q * (y + D) = q * y + q * D := Int.mul_add _ _ _
  have hqy : 0 ≤ x - q * y ∧ x - q * y < y := by
    rcases li.pat with ⟨-, p1, p2, p3, p4⟩ | ⟨-, p1, p2, p3, p4⟩
    · have m1 : 0 ≤ q * D := Int.mul_nonneg hq p4
      have m2 : q * C ≤ 0 := Int.mul_nonpos_of_nonneg_of_nonpos hq p3
      constructor <;> omega
    · have m1 : 0 ≤ q * C := Int.mul_nonneg hq p3
      have m2 : q * D ≤ 0 := Int.mul_nonpos_of_nonneg_of_nonpos hq p4
      constructor <;> omega
  obtain ⟨t1, t2⟩ := li'.short hy hqy.1
  have n1 : ((-s) * x0).natAbs = x0.natAbs := by
    rcases li.pat with ⟨e, -⟩ | ⟨e, -⟩ <;> rw [e] <;> simp
  have n2 : ((-s) * y0).natAbs = y0.natAbs := by
    rcases li.pat with ⟨e, -⟩ | ⟨e, -⟩ <;> rw [e] <;> simp
  rw [n1] at t1
  rw [n2] at t2
  obtain ⟨u1, u2⟩ := li.short hx hy
  have n3 : (s * x0).natAbs = x0.natAbs := by
    rcases li.pat with ⟨e, -⟩ | ⟨e, -⟩ <;> rw [e] <;> simp
  have n4 : (s * y0).natAbs = y0.natAbs := by
    rcases li.pat with ⟨e, -⟩ | ⟨e, -⟩ <;> rw [e] <;> simp
  rw [n3] at u1
  rw [n4] at u2
  refine ⟨⟨⟨-s, li'⟩, hqy.1, by omega, Or.inr ⟨by omega, by omega, ?_, ?_, ?_, ?_⟩⟩, hqy.2, by omega, by omega⟩
  · exact short_of (x := x.natAbs) (by omega) (by omega)
  · exact short_of (x := x.natAbs) (by omega) (by omega)
  · exact short_of (x := y.natAbs) (by omega) (by omega)
  · exact short_of (x := y.natAbs) (by omega) (by omega)

/-- Bounds of the state, for the arithmetic in 64 bits. -/
theorem LS.bounds {x0 y0 A B C D x y : Int} (h : LS x0 y0 A B C D x y) (hx1 : x0 < 1152921504606846976) (hy0 : 0 ≤ y0) (hyx0 : y0 ≤ x0) :
    0 ≤ y ∧ y ≤ x ∧ x < 1152921504606846976 ∧ -2147483648 < A ∧ A < 2147483648 ∧ -2147483648 < B ∧ B < 2147483648 ∧ -2147483648 < C ∧ C < 2147483648 ∧ -2147483648 < D ∧ D < 2147483648 ∧ 0 ≤ x + A ∧ 0 ≤ x + B ∧ 0 ≤ y + C ∧ 0 ≤ y + D := by
  obtain ⟨⟨s, li⟩, hy, hyx, hst⟩ := h
  have hxx : x ≤ x0 := by
    rcases hst with ⟨-, -, -, -, e, -⟩ | -
    · omega
    · obtain ⟨u1, u2⟩ := li.short (by omega) hy
      have hdet := li.det
      rcases li.pat with ⟨e, p1, p2, p3, p4⟩ | ⟨e, p1, p2, p3, p4⟩
      · rw [e, Int.one_mul] at u1 u2
        have hD : 0 < D := by
          rcases Int.lt_or_le 0 D with g | g
          · exact g
          · have : D = 0 := by omega
            subst this
            have : 0 ≤ B * C := Int.mul_nonneg_of_nonpos_of_nonpos p2 p3
            simp at hdet
            omega
        have : 1 * x.natAbs ≤ D.natAbs * x.natAbs := Nat.mul_le_mul_right _ (by omega)
        omega
      · have hC : 0 < C := by
          rcases Int.lt_or_le 0 C with g | g
          · exact g
          · have : C = 0 := by omega
            subst this
            have : 0 ≤ A * D := Int.mul_nonneg_of_nonpos_of_nonpos p1 p4
            simp at hdet
            omega
        have : 1 * x.natAbs ≤ C.natAbs * x.natAbs := Nat.mul_le_mul_right _ (by omega)
        have n4 : (s * y0).natAbs = y0.natAbs := by rw [e]; simp
        rw [n4] at u2
        omega
  have h1 := li.nA
  have h2 := li.nB
  have h3 := li.nC
  have h4 := li.nD
  rcases hst with ⟨rfl, rfl, rfl, rfl, -, -⟩ | ⟨-, -, b1, b2, b3, b4⟩ <;> omega

/-- Bounds of a step. -/
theorem LS.qbounds {x0 y0 A B C D x y q : Int} (h : LS x0 y0 A B C D x y) (h' : LS x0 y0 C D (A - q * C) (B - q * D) y (x - q * y)) (hx1 : x0 < 1152921504606846976) (hy0 : 0 ≤ y0) (hyx0 : y0 ≤ x0) :
    -8589934592 < q * C ∧ q * C < 8589934592 ∧ -8589934592 < q * D ∧ q * D < 8589934592 ∧ 0 ≤ q * y + x ∧ q * y ≤ x := by
  have a := h.bounds hx1 hy0 hyx0
  have b := h'.bounds hx1 hy0 hyx0
  omega

/-- Both sums are greater than 0 where the loop goes on; then y is. -/
theorem LS.ypos {x0 y0 A B C D x y : Int} (h : LS x0 y0 A B C D x y) (hC : y + C ≠ 0) (hD : y + D ≠ 0) : 0 < y + C ∧ 0 < y + D ∧ 0 < y := by
  obtain ⟨⟨s, li⟩, hy, -, -⟩ := h
  have h3 := li.nC
  have h4 := li.nD
  rcases li.pat with ⟨e, p1, p2, p3, p4⟩ | ⟨e, p1, p2, p3, p4⟩ <;> omega

/-- What the factors are worth at the end. -/
def FacOk (a b A B C D : Int) : Prop :=
  B = 0 ∨ (((0 ≤ A ∧ B ≤ 0 ∧ C ≤ 0 ∧ 0 ≤ D) ∨ (A ≤ 0 ∧ 0 ≤ B ∧ 0 ≤ C ∧ D ≤ 0)) ∧ A.natAbs < 2147483648 ∧ B.natAbs < 2147483648 ∧ C.natAbs < 2147483648 ∧ D.natAbs < 2147483648 ∧
    0 ≤ C * a + D * b ∧ C * a + D * b < A * a + B * b ∧ A * a + B * b ≤ b ∧ Int.gcd (A * a + B * b) (C * a + D * b) = Int.gcd a b)

/-- The state, with what it makes of the numbers themselves. -/
structure LT (a b x0 y0 A B C D x y : Int) : Prop where
  ls : LS x0 y0 A B C D x y
  fac : (A = 1 ∧ B = 0 ∧ C = 0 ∧ D = 1) ∨ (0 ≤ C * a + D * b ∧ C * a + D * b < A * a + B * b ∧ A * a + B * b ≤ b)

theorem LT.ok {a b x0 y0 A B C D x y : Int} (h : LT a b x0 y0 A B C D x y) : FacOk a b A B C D := by
  obtain ⟨⟨⟨s, li⟩, hy, hyx, hst⟩, hf⟩ := h
  rcases hf with ⟨-, e, -⟩ | ⟨f1, f2, f3⟩
  · exact Or.inl e
  · rcases hst with ⟨-, e, -⟩ | ⟨-, -, b1, b2, b3, b4⟩
    · exact Or.inl e
    · refine Or.inr ⟨?_, b1, b2, b3, b4, f1, f2, f3, li.gcd a b⟩
      rcases li.pat with ⟨-, p⟩ | ⟨-, p⟩
      · exact Or.inl p
      · exact Or.inr p

theorem LT.step {a b x0 y0 A B C D x y q P al be : Int} (h : LT a b x0 y0 A B C D x y) (hx0 : 576460752303423488 ≤ x0) (hx1 : x0 < 1152921504606846976) (hy0 : 0 ≤ y0) (hyx0 : y0 ≤ x0) (hC : 0 < y + C) (hD : 0 < y + D)
    (h1 : q * (y + C) ≤ x + A) (h2 : x + A < q * (y + C) + (y + C)) (h3 : q * (y + D) ≤ x + B) (h4 : x + B < q * (y + D) + (y + D)) (hq : 0 ≤ q)
    (ha : a = x0 * P + al) (hb : b = y0 * P + be) (a1 : 0 ≤ al) (a2 : al < P) (a3 : 0 ≤ be) (a4 : be < P) :
    LT a b x0 y0 C D (A - q * C) (B - q * D) y (x - q * y) ∧ x - q * y < y := by
  obtain ⟨ls', hlt, k1, k2⟩ := h.ls.step hx0 hx1 hy0 hyx0 hC hD h1 h2 h3 h4 hq
  refine ⟨⟨ls', Or.inr ?_⟩, hlt⟩
  obtain ⟨s', li'⟩ := ls'.li
  obtain ⟨r1, -, r3⟩ := li'.rest ha hb a1 (by omega) a3 (by omega) k1 k2
  refine ⟨r1, r3 (by omega), ?_⟩
  rcases h.fac with ⟨-, -, rfl, rfl⟩ | ⟨f1, f2, f3⟩
  · omega
  · omega

/-- The quotient of two numbers in 64 bits, of which the second is greater than 0. -/
theorem quo_bounds {u v : Int} (hv : 0 < v) (hu : 0 ≤ u) : u.tdiv v * v ≤ u ∧ u < u.tdiv v * v + v ∧ 0 ≤ u.tdiv v ∧ u.tdiv v ≤ u := by
  rw [Int.tdiv_eq_ediv_of_nonneg hu]
  have e := Int.mul_ediv_add_emod u v
  have m0 := Int.emod_nonneg u (by omega : v ≠ 0)
  have m1 := Int.emod_lt_of_pos u hv
  rw [Int.mul_comm] at e
  refine ⟨by omega, by omega, Int.ediv_nonneg hu (by omega), Int.ediv_le_self v hu⟩

end Go.Proofs.YtabaknkjcoibpaaGreatDoor

namespace Go.Proofs.YtabaknkjcoibpaaGreatDoor
open Go.RowKit

/-- exact.digits.bits, of a number of more than two digits. -/
theorem bits_any (A : Option Addr) (n c : Nat) (f : Nat → Nat) (w : World) (hn : n ≤ 1000000) (h2 : 2 < n) (hA : Dg w A n f) (hf : ∀ i, i < n → f i < W) (hfn : Nrm f n) :
    ∃ r : Nat, 64 < r ∧ r ≤ 32 * n ∧ 2 ^ (r - 1) ≤ V f n ∧ V f n < 2 ^ r ∧ Calls Tryz.prog 279 #[.slice A n c] w fun e w' => e = .returned (.int .i64 (r : Int)) ∧ w = w' := by
  obtain ⟨k, rfl⟩ : ∃ k, n = k + 1 := ⟨n - 1, by omega⟩
  have hy0 : 0 < f k := by
    rcases hfn with h | h
    · omega
    · simp only [Nat.add_sub_cancel] at h; omega
  have hy1 : f k < 4294967296 := hf k (by omega)
  have hL : Lib.bitLen (f k) = Lib.bitLenAux 32 (f k) := Lib.bitLenAux_fuel 32 (f k) hy1 64 (by omega)
  obtain ⟨a1, a2, a3, a4⟩ := bitLen_bounds 32 (f k) hy0 hy1
  generalize hl : Lib.bitLenAux 32 (f k) = L at a1 a2 a3 a4
  have hVk : V f k < W ^ k := V_lt fun i hi => hf i (by omega)
  have eW : W ^ k = 2 ^ (32 * k) := by rw [show W = 2 ^ 32 from rfl, ← Nat.pow_mul]
  refine ⟨32 * k + L, by omega, by omega, ?_, ?_, ?_⟩
  · rw [V_succ, eW, show 32 * k + L - 1 = (L - 1) + 32 * k from by omega, Nat.pow_add]
    have := Nat.mul_le_mul_right (2 ^ (32 * k)) a3
    omega
  · rw [V_succ, eW, Nat.add_comm (32 * k) L, Nat.pow_add]
    have : (f k + 1) * 2 ^ (32 * k) ≤ 2 ^ L * 2 ^ (32 * k) := Nat.mul_le_mul_right _ a4
    rw [Nat.add_mul, Nat.one_mul] at this
    omega
  · obtain ⟨b, off, rfl, hb, hcells⟩ := hA (by omega)
    have hcell := hcells k (by omega)
    have HB : Hid (∀ wx, Calls Tryz.prog 169 #[.int .u32 ((f k : Nat) : Int)] wx fun e w' => e = .returned (.int .i64 (L : Int)) ∧ w' = wx) := fun wx => by
      have := Tryz.bits_Len32 ((f k : Nat) : Int) wx (by omega) (by omega)
      rw [Int.toNat_natCast, hL, hl] at this
      exact this
    have e1 : ((k + 1 : Nat) : Int) - 1 = (k : Int) := by omega
    clear hcells hVk eW a3 a4 hL hl hfn hf
    go_enter Tryz.func279, Tryz.ntmps279
    go_wp2_with fail
    (with_reducible refine (HB.out _).mono ?_)
    rintro e w' ⟨rfl, rfl⟩
    go_wp2_with fail
    go_ret
    exact ⟨by rw [show ((32 * k + L : Nat) : Int) = 32 * (k : Int) + (L : Int) from by omega]; rfl, rfl⟩

/-- exact.digits.window. -/
theorem window_any (A : Option Addr) (n c cut i s X : Nat) (f : Nat → Nat) (w : World) (hn : n ≤ 1000000) (hs : s < 32) (hi : i ≤ 999999) (hA : Dg w A n f) (hf : ∀ i, i < n → f i < W) (hcut : cut = 32 * i + s) (hX : X = V f n / 2 ^ cut) (hlt : X < 1152921504606846976) :
    Calls Tryz.prog 280 #[.slice A n c, .int .i64 (cut : Int)] w fun e w' => e = .returned (.int .i64 (X : Int)) ∧ Drn w w' := by
  rw [hcut] at hX
  have eW : (2 : Nat) ^ (32 * i) = W ^ i := by rw [show W = 2 ^ 32 from rfl, ← Nat.pow_mul]
  have hVX : V f n / 2 ^ (32 * i + s) = V f n / W ^ i / 2 ^ s := by rw [Nat.pow_add, eW, Nat.div_div_eq_div_mul]
  have h3 : V f n / W ^ i < W ^ 3 := by
    have h1 : V f n / W ^ i < (X + 1) * 2 ^ s := by
      rw [hVX] at hX
      have := Nat.lt_mul_div_succ (V f n / W ^ i) (two_pow_pos s)
      rw [← hX, Nat.mul_comm] at this
      exact this
    have h2 : (X + 1) * 2 ^ s ≤ 1152921504606846976 * 2147483648 := Nat.mul_le_mul (by omega) (two_pow_le s hs)
    have h4 : W ^ 3 = 79228162514264337593543950336 := by rw [W_eq]
    omega
  have hV := V_three hf h3
  obtain ⟨L, hL⟩ : ∃ L, L = ext f n (i + 1) * 4294967296 + ext f n i := ⟨_, rfl⟩
  have b0 := ext_lt hf i
  have b1 := ext_lt hf (i + 1)
  have b2 := ext_lt hf (i + 2)
  have HW := Lib.hid (window_val (l := L) (hi := ext f n (i + 2)) (X := X) (s := s) hs (by omega) b2 (by rw [hX, hVX, hV, hL, W_eq]; congr 1; omega) hlt).1
  have HL : Hid (bits BinOp.or IntKind.u64 ((ext f n i : Nat) : Int) (((ext f n (i + 1) : Nat) : Int) * 4294967296) = (L : Int)) := by
    show _ = _
    have e : ((ext f n (i + 1) : Nat) : Int) * 4294967296 = ((ext f n (i + 1) * 4294967296 : Nat) : Int) := by omega
    rw [e, u64_or_nat _ _ (by omega) (by omega), Nat.or_comm, nat_join 32 _ _ (by omega) (by omega), hL]
  have HX := Lib.hid hlt
  have HA := Lib.hid hA
  clear hX hVX h3 hV hL eW hlt hA
  generalize he0 : ext f n i = d0 at *
  generalize he1 : ext f n (i + 1) = d1 at *
  generalize he2 : ext f n (i + 2) = d2 at *
  have C0 : Hid (∀ wx, Drn w wx → Calls Tryz.prog 270 #[.slice A n c, .int .i64 ((i : Nat) : Int)] wx fun e w' => e = .returned (.int .u32 (d0 : Int)) ∧ wx = w') := fun wx hx => by
    have := at_any A n c f ((i : Nat) : Int) wx (by omega) (by omega) hn (hx.dg HA.out)
    rw [Int.toNat_natCast, he0] at this
    exact this
  have C1 : Hid (∀ wx, Drn w wx → Calls Tryz.prog 270 #[.slice A n c, .int .i64 ((i : Nat) + 1 : Int)] wx fun e w' => e = .returned (.int .u32 (d1 : Int)) ∧ wx = w') := fun wx hx => by
    have := at_any A n c f ((i : Nat) + 1 : Int) wx (by omega) (by omega) hn (hx.dg HA.out)
    rw [show ((i : Int) + 1).toNat = i + 1 from by omega, he1] at this
    exact this
  have C2 : Hid (∀ wx, Drn w wx → Calls Tryz.prog 270 #[.slice A n c, .int .i64 ((i : Nat) + 2 : Int)] wx fun e w' => e = .returned (.int .u32 (d2 : Int)) ∧ wx = w') := fun wx hx => by
    have := at_any A n c f ((i : Nat) + 2 : Int) wx (by omega) (by omega) hn (hx.dg HA.out)
    rw [show ((i : Int) + 2).toNat = i + 2 from by omega, he2] at this
    exact this
  clear he0 he1 he2 hf
  have q3 : (cut : Int) / 32 = (i : Int) := by omega
  have q4 : (cut : Int) % 32 = (s : Int) := by omega
  clear hcut
  go_enter Tryz.func280, Tryz.ntmps280
  go_wp2_with fail
  (with_reducible refine (C0.out _ (Drn.refl _)).mono ?_)
  rintro e w' ⟨rfl, rfl⟩
  go_wp2_with fail
  (with_reducible refine (C1.out _ (Drn.refl _)).mono ?_)
  rintro e w' ⟨rfl, rfl⟩
  go_wp2_with fail
  (with_reducible refine (C2.out _ (Drn.refl _)).mono ?_)
  rintro e w' ⟨rfl, rfl⟩
  go_wp2_with fail
  go_quiet (fail)
  go_wp2_with fail
  go_ret
  refine ⟨?_, (Drn.refl _).more _⟩
  show Ending.returned (Value.int .i64 (wrap64 (bits .or .u64 (bits .or .u64 (d0 : Int) ((d1 : Int) * 4294967296) / 2 ^ s) (IntKind.u64.wrap ((d2 : Int) * 2 ^ (64 - s)))))) = _
  rw [HL.out, HW.out]
  have h := HX.out
  rw [show wrap64 (X : Int) = (X : Int) from by unfold wrap64; omega]

/-- A box of four factors. -/
structure FB (g : Nat) (a b c d : Int) (w : World) : Prop where
  c0 : w.cell? ⟨g, 0, none⟩ = some (.int .i64 a)
  c1 : w.cell? ⟨g, 1, none⟩ = some (.int .i64 b)
  c2 : w.cell? ⟨g, 2, none⟩ = some (.int .i64 c)
  c3 : w.cell? ⟨g, 3, none⟩ = some (.int .i64 d)
  f0 : w.frozen? ⟨g, 0, none⟩ = false
  f1 : w.frozen? ⟨g, 1, none⟩ = false
  f2 : w.frozen? ⟨g, 2, none⟩ = false
  f3 : w.frozen? ⟨g, 3, none⟩ = false
  lt : g < w.heap.size
theorem FB.keep {g : Nat} {a b c d : Int} {w w' : World} (h : FB g a b c d w) (hB : Below w.heap.size w w') : FB g a b c d w' :=
  ⟨(hB.cell (p := ⟨g, 0, none⟩) h.lt).trans h.c0, (hB.cell (p := ⟨g, 1, none⟩) h.lt).trans h.c1, (hB.cell (p := ⟨g, 2, none⟩) h.lt).trans h.c2, (hB.cell (p := ⟨g, 3, none⟩) h.lt).trans h.c3,
    (hB.frozen (p := ⟨g, 0, none⟩) h.lt).trans h.f0, (hB.frozen (p := ⟨g, 1, none⟩) h.lt).trans h.f1, (hB.frozen (p := ⟨g, 2, none⟩) h.lt).trans h.f2, (hB.frozen (p := ⟨g, 3, none⟩) h.lt).trans h.f3, Nat.lt_of_lt_of_le h.lt hB.size⟩
theorem FB.new (w : World) (a b c d : Int) (T : Nat) {g : Nat} (hg : g = w.heap.size) : FB g a b c d (w.alloc (.cells #[.int .i64 a, .int .i64 b, .int .i64 c, .int .i64 d] T)) := by
  subst hg
  refine ⟨?_, ?_, ?_, ?_, ?_, ?_, ?_, ?_, ?_⟩ <;> simp [go_sem]
theorem FB.set {g : Nat} {a b c d : Int} {w : World} (h : FB g a b c d w) (p q r u : Int) : FB g p q r u ((((w.setCell ⟨g, 0, none⟩ (.int .i64 p)).setCell ⟨g, 1, none⟩ (.int .i64 q)).setCell ⟨g, 2, none⟩ (.int .i64 r)).setCell ⟨g, 3, none⟩ (.int .i64 u)) := by
  obtain ⟨c0, c1, c2, c3, f0, f1, f2, f3, hl⟩ := h
  refine ⟨?_, ?_, ?_, ?_, ?_, ?_, ?_, ?_, ?_⟩
  any_goals simp [go_sem, c0, c1, c2, c3, f0, f1, f2, f3]
  simpa [World.setCell] using hl
theorem FB.far {g k : Nat} {a b c d : Int} {w : World} (h : FB g a b c d w) (hk : g ≠ k) (o : Nat) (u : Value) : FB g a b c d (w.setCell ⟨k, o, none⟩ u) := by
  obtain ⟨c0, c1, c2, c3, f0, f1, f2, f3, hl⟩ := h
  refine ⟨?_, ?_, ?_, ?_, ?_, ?_, ?_, ?_, ?_⟩
  any_goals simp [go_sem, c0, c1, c2, c3, f0, f1, f2, f3]
  simpa [World.setCell] using hl

end Go.Proofs.YtabaknkjcoibpaaGreatDoor
