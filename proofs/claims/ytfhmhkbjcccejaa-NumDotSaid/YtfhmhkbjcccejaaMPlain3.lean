/- Plain facts on fractions in lowest terms. -/

namespace Go.Proofs.Ytfhmhkbjcccejaa

theorem rat_is (x : Rat) (t : Int) (l : Nat) (hl : l ≠ 0) (hc : t.natAbs.gcd l = 1) (h : x.num * l = t * x.den) : x.num = t ∧ x.den = l := by
  have e : x = ⟨t, l, hl, hc⟩ := Rat.eq_iff_mul_eq_mul.2 h
  rw [e]; exact ⟨rfl, rfl⟩

theorem rat_of_mkRat {n t : Int} {d l : Nat} (hd : d ≠ 0) (hl : l ≠ 0) (hc : t.natAbs.gcd l = 1) (h : n * l = t * d) : (mkRat n d).num = t ∧ (mkRat n d).den = l := by
  have e : mkRat n d = ⟨t, l, hl, hc⟩ := by
    rw [Rat.mk_eq_mkRat, Rat.mkRat_eq_iff hd hl]
    exact h
  rw [e]; exact ⟨rfl, rfl⟩

theorem cop_of_gcd {a b d u v : Nat} (hd : 0 < d) (h : Nat.gcd a b = d) (hu : a = u * d) (hv : b = v * d) : Nat.Coprime u v := by
  have : Nat.gcd (u * d) (v * d) = d := by rw [← hu, ← hv, h]
  rw [Nat.gcd_mul_right] at this
  exact Nat.eq_of_mul_eq_mul_right hd (by rw [this, Nat.one_mul])

theorem cop_sum {p q : Int} {a u v : Nat} (hpa : Nat.Coprime p.natAbs a) (hua : u ∣ a) (huv : Nat.Coprime u v) : Nat.Coprime (p * v + q * u).natAbs u := by
  have hg : Nat.gcd (p * v + q * u).natAbs u = 1 := by
    generalize hgd : Nat.gcd (p * v + q * u).natAbs u = g
    have h1 : g ∣ (p * v + q * u).natAbs := by rw [← hgd]; exact Nat.gcd_dvd_left _ _
    have h2 : g ∣ u := by rw [← hgd]; exact Nat.gcd_dvd_right _ _
    have h3 : (g : Int) ∣ p * v + q * u := Int.ofNat_dvd_left.2 h1
    have h4 : (g : Int) ∣ q * u := Int.dvd_trans (Int.ofNat_dvd.2 h2) (Int.dvd_mul_left _ _)
    have h5 : (g : Int) ∣ p * v := by
      have := Int.dvd_sub h3 h4
      rwa [Int.add_sub_cancel] at this
    have h6 : g ∣ p.natAbs * v := by
      have := Int.ofNat_dvd_left.1 h5
      rwa [Int.natAbs_mul, Int.natAbs_natCast] at this
    have h7 : Nat.Coprime g v := Nat.Coprime.coprime_dvd_left h2 huv
    have h8 : g ∣ p.natAbs := h7.dvd_of_dvd_mul_right h6
    have h9 : g ∣ Nat.gcd p.natAbs a := Nat.dvd_gcd h8 (Nat.dvd_trans h2 hua)
    rw [hpa.gcd_eq_one] at h9
    exact Nat.dvd_one.1 h9
  exact hg

theorem rat_add {x y : Rat} {d u v r e : Nat} {s : Int} (hd : Nat.gcd x.den y.den = d) (hu : x.den = u * d) (hv : y.den = v * d)
    (hr : (x.num * v + y.num * u).natAbs.gcd d = r) (hs : x.num * v + y.num * u = s * r) (he : d = e * r) : (x + y).num = s ∧ (x + y).den = e * u * v := by
  have hx : x.den ≠ 0 := x.den_nz
  have hy : y.den ≠ 0 := y.den_nz
  have hd0 : 0 < d := by rw [← hd]; exact Nat.gcd_pos_of_pos_left _ (by omega)
  have hr0 : 0 < r := by rw [← hr]; exact Nat.gcd_pos_of_pos_right _ hd0
  have huv : Nat.Coprime u v := cop_of_gcd hd0 hd hu hv
  have c1 : Nat.Coprime (x.num * v + y.num * u).natAbs u := cop_sum x.reduced ⟨d, hu⟩ huv
  have c2 : Nat.Coprime (x.num * v + y.num * u).natAbs v := by
    rw [Int.add_comm]; exact cop_sum y.reduced ⟨d, hv⟩ huv.symm
  have hsn : (x.num * v + y.num * u).natAbs = s.natAbs * r := by rw [hs, Int.natAbs_mul, Int.natAbs_natCast]
  have c3 : Nat.Coprime s.natAbs e := cop_of_gcd hr0 hr hsn he
  have hdv : s.natAbs ∣ (x.num * v + y.num * u).natAbs := ⟨r, hsn⟩
  have c4 : Nat.Coprime s.natAbs (e * u * v) := (c3.mul_right (c1.coprime_dvd_left hdv)).mul_right (c2.coprime_dvd_left hdv)
  rw [Rat.add_def']
  refine rat_of_mkRat (Nat.mul_ne_zero hx hy) ?_ c4 ?_
  · intro h0
    rcases Nat.mul_eq_zero.1 h0 with h | h
    · rcases Nat.mul_eq_zero.1 h with h | h
      · rw [h, Nat.zero_mul] at he; omega
      · rw [h, Nat.zero_mul] at hu; omega
    · rw [h, Nat.zero_mul] at hv; omega
  · have e1 : x.num * (y.den : Int) + y.num * (x.den : Int) = s * r * d := by
      rw [← hs, hu, hv, Int.natCast_mul, Int.natCast_mul]; grind
    rw [e1, hu, hv]
    simp only [Int.natCast_mul]
    have e2 : (d : Int) = e * r := by rw [he, Int.natCast_mul]
    grind

theorem rat_mul {x y : Rat} {l r c e : Nat} {a b : Int} (hl : x.num.natAbs.gcd y.den = l) (hr : y.num.natAbs.gcd x.den = r)
    (ha : x.num = a * l) (hb : y.num = b * r) (hc : x.den = c * r) (he : y.den = e * l) : (x * y).num = a * b ∧ (x * y).den = c * e := by
  have hx : x.den ≠ 0 := x.den_nz
  have hy : y.den ≠ 0 := y.den_nz
  have hl0 : 0 < l := by rw [← hl]; exact Nat.gcd_pos_of_pos_right _ (by omega)
  have hr0 : 0 < r := by rw [← hr]; exact Nat.gcd_pos_of_pos_right _ (by omega)
  have han : x.num.natAbs = a.natAbs * l := by rw [ha, Int.natAbs_mul, Int.natAbs_natCast]
  have hbn : y.num.natAbs = b.natAbs * r := by rw [hb, Int.natAbs_mul, Int.natAbs_natCast]
  have c1 : Nat.Coprime a.natAbs e := cop_of_gcd hl0 hl han he
  have c2 : Nat.Coprime b.natAbs c := cop_of_gcd hr0 hr hbn hc
  have c3 : Nat.Coprime a.natAbs c := (x.reduced.coprime_dvd_left ⟨l, han⟩).coprime_dvd_right ⟨r, hc⟩
  have c4 : Nat.Coprime b.natAbs e := (y.reduced.coprime_dvd_left ⟨r, hbn⟩).coprime_dvd_right ⟨l, he⟩
  have c5 : (a * b).natAbs.gcd (c * e) = 1 := by
    rw [Int.natAbs_mul]
    exact (c3.mul_right c1).mul_left (c2.mul_right c4)
  rw [Rat.mul_def']
  refine rat_of_mkRat (Nat.mul_ne_zero hx hy) ?_ c5 ?_
  · intro h0
    rcases Nat.mul_eq_zero.1 h0 with h | h
    · rw [h, Nat.zero_mul] at hc; omega
    · rw [h, Nat.zero_mul] at he; omega
  · rw [ha, hb, hc, he]
    simp only [Int.natCast_mul]
    grind

theorem rat_ratio {n t : Int} {d l g : Nat} (hd : d ≠ 0) (hg : n.natAbs.gcd d = g) (ht : n = t * g) (hl : d = l * g) : (mkRat n d).num = t ∧ (mkRat n d).den = l := by
  have hg0 : 0 < g := by rw [← hg]; exact Nat.gcd_pos_of_pos_right _ (by omega)
  have hn : n.natAbs = t.natAbs * g := by rw [ht, Int.natAbs_mul, Int.natAbs_natCast]
  refine rat_of_mkRat hd ?_ (cop_of_gcd hg0 hg hn hl) ?_
  · rintro rfl; simp at hl; exact hd hl
  · rw [ht, hl, Int.natCast_mul]; grind

end Go.Proofs.Ytfhmhkbjcccejaa
