/- The leading parts of two long numbers, and Lehmer's steps on them. -/
import Derived.Test.YtmfnpipmbpnfbaaGreatDoorF09
import Derived.Test.YtmfnpipmbpnfbaaGreatDoorF05

set_option maxRecDepth 100000
set_option maxHeartbeats 40000000
namespace Go.Proofs.YtmfnpipmbpnfbaaGreatDoor
open Go.RowKit
theorem bits_any (A : Option Addr) (n c : Nat) (f : Nat → Nat) (w : World) (hn : n ≤ 1000000) (h2 : 2 < n) (hA : Dg w A n f) (hf : ∀ i, i < n → f i < W) (hfn : Nrm f n) :
    ∃ r : Nat, 64 < r ∧ r ≤ 32 * n ∧ 2 ^ (r - 1) ≤ V f n ∧ V f n < 2 ^ r ∧ Calls Tryz.prog 279 #[.slice A n c] w fun e w' => e = .returned (.int .i64 (r : Int)) ∧ w = w' := by
  obtain ⟨k, rfl⟩ : ∃ k, n = k + 1 := ⟨n - 1, by omega⟩
  have hy0 : 0 < f k := by
    rcases hfn with h | h
    · omega
    · simp only [Nat.add_sub_cancel] at h; omega
  have hy1 : f k < 4294967296 := hf k (by omega)
  have hL : Lib.bitLen (f k) = Lib.bitLenAux 32 (f k) := Lib.bitLenAux_fuel 32 (f k) hy1 64 (by omega)
  obtain ⟨a1, a2, a3, a4⟩ := bitLen_bounds 32 (f k) hy0 hy1
  generalize hl : Lib.bitLenAux 32 (f k) = L at a1 a2 a3 a4
  have hVk : V f k < W ^ k := V_lt fun i hi => hf i (by omega)
  have eW : W ^ k = 2 ^ (32 * k) := by rw [show W = 2 ^ 32 from rfl, ← Nat.pow_mul]
  refine ⟨32 * k + L, by omega, by omega, ?_, ?_, ?_⟩
  · rw [V_succ, eW, show 32 * k + L - 1 = (L - 1) + 32 * k from by omega, Nat.pow_add]
    have := Nat.mul_le_mul_right (2 ^ (32 * k)) a3
    omega
  · rw [V_succ, eW, Nat.add_comm (32 * k) L, Nat.pow_add]
    have : (f k + 1) * 2 ^ (32 * k) ≤ 2 ^ L * 2 ^ (32 * k) := Nat.mul_le_mul_right _ a4
    rw [Nat.add_mul, Nat.one_mul] at this
    omega
  · obtain ⟨b, off, rfl, hb, hcells⟩ := hA (by omega)
    have hcell := hcells k (by omega)
    have HB : Hid (∀ wx, Calls Tryz.prog 169 #[.int .u32 ((f k : Nat) : Int)] wx fun e w' => e = .returned (.int .i64 (L : Int)) ∧ w' = wx) := fun wx => by
      have := Tryz.bits_Len32 ((f k : Nat) : Int) wx (by omega) (by omega)
      rw [Int.toNat_natCast, hL, hl] at this
      exact this
    have e1 : ((k + 1 : Nat) : Int) - 1 = (k : Int) := by omega
    clear hcells hVk eW a3 a4 hL hl hfn hf
    go_enter Tryz.func279, Tryz.ntmps279
    go_wp2_with fail
    (with_reducible refine (HB.out _).mono ?_)
    rintro e w' ⟨rfl, rfl⟩
    go_wp2_with fail
    go_ret
    exact ⟨by rw [show ((32 * k + L : Nat) : Int) = 32 * (k : Int) + (L : Int) from by omega]; rfl, rfl⟩
theorem window_any (A : Option Addr) (n c cut i s X : Nat) (f : Nat → Nat) (w : World) (hn : n ≤ 1000000) (hs : s < 32) (hi : i ≤ 999999) (hA : Dg w A n f) (hf : ∀ i, i < n → f i < W) (hcut : cut = 32 * i + s) (hX : X = V f n / 2 ^ cut) (hlt : X < 1152921504606846976) :
    Calls Tryz.prog 280 #[.slice A n c, .int .i64 (cut : Int)] w fun e w' => e = .returned (.int .i64 (X : Int)) ∧ Drn w w' := by
  rw [hcut] at hX
  have eW : (2 : Nat) ^ (32 * i) = W ^ i := by rw [show W = 2 ^ 32 from rfl, ← Nat.pow_mul]
  have hVX : V f n / 2 ^ (32 * i + s) = V f n / W ^ i / 2 ^ s := by rw [Nat.pow_add, eW, Nat.div_div_eq_div_mul]
  have h3 : V f n / W ^ i < W ^ 3 := by
    have h1 : V f n / W ^ i < (X + 1) * 2 ^ s := by
      rw [hVX] at hX
      have := Nat.lt_mul_div_succ (V f n / W ^ i) (two_pow_pos s)
      rw [← hX, Nat.mul_comm] at this
      exact this
    have h2 : (X + 1) * 2 ^ s ≤ 1152921504606846976 * 2147483648 := Nat.mul_le_mul (by omega) (two_pow_le s hs)
    have h4 : W ^ 3 = 79228162514264337593543950336 := by rw [W_eq]
    omega
  have hV := V_three hf h3
  obtain ⟨L, hL⟩ : ∃ L, L = ext f n (i + 1) * 4294967296 + ext f n i := ⟨_, rfl⟩
  have b0 := ext_lt hf i
  have b1 := ext_lt hf (i + 1)
  have b2 := ext_lt hf (i + 2)
  have HW := Lib.hid (window_val (l := L) (hi := ext f n (i + 2)) (X := X) (s := s) hs (by omega) b2 (by rw [hX, hVX, hV, hL, W_eq]; congr 1; omega) hlt).1
  have HL : Hid (bits BinOp.or IntKind.u64 ((ext f n i : Nat) : Int) (((ext f n (i + 1) : Nat) : Int) * 4294967296) = (L : Int)) := by
    show _ = _
    have e : ((ext f n (i + 1) : Nat) : Int) * 4294967296 = ((ext f n (i + 1) * 4294967296 : Nat) : Int) := by omega
    rw [e, u64_or_nat _ _ (by omega) (by omega), Nat.or_comm, nat_join 32 _ _ (by omega) (by omega), hL]
  have HX := Lib.hid hlt
  have HA := Lib.hid hA
  clear hX hVX h3 hV hL eW hlt hA
  generalize he0 : ext f n i = d0 at *
  generalize he1 : ext f n (i + 1) = d1 at *
  generalize he2 : ext f n (i + 2) = d2 at *
  have C0 : Hid (∀ wx, Drn w wx → Calls Tryz.prog 270 #[.slice A n c, .int .i64 ((i : Nat) : Int)] wx fun e w' => e = .returned (.int .u32 (d0 : Int)) ∧ wx = w') := fun wx hx => by
    have := at_any A n c f ((i : Nat) : Int) wx (by omega) (by omega) hn (hx.dg HA.out)
    rw [Int.toNat_natCast, he0] at this
    exact this
  have C1 : Hid (∀ wx, Drn w wx → Calls Tryz.prog 270 #[.slice A n c, .int .i64 ((i : Nat) + 1 : Int)] wx fun e w' => e = .returned (.int .u32 (d1 : Int)) ∧ wx = w') := fun wx hx => by
    have := at_any A n c f ((i : Nat) + 1 : Int) wx (by omega) (by omega) hn (hx.dg HA.out)
    rw [show ((i : Int) + 1).toNat = i + 1 from by omega, he1] at this
    exact this
  have C2 : Hid (∀ wx, Drn w wx → Calls Tryz.prog 270 #[.slice A n c, .int .i64 ((i : Nat) + 2 : Int)] wx fun e w' => e = .returned (.int .u32 (d2 : Int)) ∧ wx = w') := fun wx hx => by
    have := at_any A n c f ((i : Nat) + 2 : Int) wx (by omega) (by omega) hn (hx.dg HA.out)
    rw [show ((i : Int) + 2).toNat = i + 2 from by omega, he2] at this
    exact this
  clear he0 he1 he2 hf
  have q3 : (cut : Int) / 32 = (i : Int) := by omega
  have q4 : (cut : Int) % 32 = (s : Int) := by omega
  clear hcut
  go_enter Tryz.func280, Tryz.ntmps280
  go_wp2_with fail
  (with_reducible refine (C0.out _ (Drn.refl _)).mono ?_)
  rintro e w' ⟨rfl, rfl⟩
  go_wp2_with fail
  (with_reducible refine (C1.out _ (Drn.refl _)).mono ?_)
  rintro e w' ⟨rfl, rfl⟩
  go_wp2_with fail
  (with_reducible refine (C2.out _ (Drn.refl _)).mono ?_)
  rintro e w' ⟨rfl, rfl⟩
  go_wp2_with fail
  go_quiet (fail)
  go_wp2_with fail
  go_ret
  refine ⟨?_, (Drn.refl _).more _⟩
  show Ending.returned (Value.int .i64 (wrap64 (bits .or .u64 (bits .or .u64 (d0 : Int) ((d1 : Int) * 4294967296) / 2 ^ s) (IntKind.u64.wrap ((d2 : Int) * 2 ^ (64 - s)))))) = _
  rw [HL.out, HW.out]
  have h := HX.out
  rw [show wrap64 (X : Int) = (X : Int) from by unfold wrap64; omega]
structure FB (g : Nat) (a b c d : Int) (w : World) : Prop where
  c0 : w.cell? ⟨g, 0, none⟩ = some (.int .i64 a)
  c1 : w.cell? ⟨g, 1, none⟩ = some (.int .i64 b)
  c2 : w.cell? ⟨g, 2, none⟩ = some (.int .i64 c)
  c3 : w.cell? ⟨g, 3, none⟩ = some (.int .i64 d)
  f0 : w.frozen? ⟨g, 0, none⟩ = false
  f1 : w.frozen? ⟨g, 1, none⟩ = false
  f2 : w.frozen? ⟨g, 2, none⟩ = false
  f3 : w.frozen? ⟨g, 3, none⟩ = false
  lt : g < w.heap.size
theorem FB.keep {g : Nat} {a b c d : Int} {w w' : World} (h : FB g a b c d w) (hB : Below w.heap.size w w') : FB g a b c d w' :=
  ⟨(hB.cell (p := ⟨g, 0, none⟩) h.lt).trans h.c0, (hB.cell (p := ⟨g, 1, none⟩) h.lt).trans h.c1, (hB.cell (p := ⟨g, 2, none⟩) h.lt).trans h.c2, (hB.cell (p := ⟨g, 3, none⟩) h.lt).trans h.c3,
    (hB.frozen (p := ⟨g, 0, none⟩) h.lt).trans h.f0, (hB.frozen (p := ⟨g, 1, none⟩) h.lt).trans h.f1, (hB.frozen (p := ⟨g, 2, none⟩) h.lt).trans h.f2, (hB.frozen (p := ⟨g, 3, none⟩) h.lt).trans h.f3, Nat.lt_of_lt_of_le h.lt hB.size⟩
theorem FB.new (w : World) (a b c d : Int) (T : Nat) {g : Nat} (hg : g = w.heap.size) : FB g a b c d (w.alloc (.cells #[.int .i64 a, .int .i64 b, .int .i64 c, .int .i64 d] T)) := by
  subst hg
  refine ⟨?_, ?_, ?_, ?_, ?_, ?_, ?_, ?_, ?_⟩ <;> simp [go_sem]
theorem FB.set {g : Nat} {a b c d : Int} {w : World} (h : FB g a b c d w) (p q r u : Int) : FB g p q r u ((((w.setCell ⟨g, 0, none⟩ (.int .i64 p)).setCell ⟨g, 1, none⟩ (.int .i64 q)).setCell ⟨g, 2, none⟩ (.int .i64 r)).setCell ⟨g, 3, none⟩ (.int .i64 u)) := by
  obtain ⟨c0, c1, c2, c3, f0, f1, f2, f3, hl⟩ := h
  refine ⟨?_, ?_, ?_, ?_, ?_, ?_, ?_, ?_, ?_⟩
  any_goals simp [go_sem, c0, c1, c2, c3, f0, f1, f2, f3]
  simpa [World.setCell] using hl
theorem FB.far {g k : Nat} {a b c d : Int} {w : World} (h : FB g a b c d w) (hk : g ≠ k) (o : Nat) (u : Value) : FB g a b c d (w.setCell ⟨k, o, none⟩ u) := by
  obtain ⟨c0, c1, c2, c3, f0, f1, f2, f3, hl⟩ := h
  refine ⟨?_, ?_, ?_, ?_, ?_, ?_, ?_, ?_, ?_⟩
  any_goals simp [go_sem, c0, c1, c2, c3, f0, f1, f2, f3]
  simpa [World.setCell] using hl
def RetF (a b : Int) (w : World) (e : Ending) (w' : World) : Prop :=
  ∃ A B C D : Int, e = .returned (.agg #[.int .i64 A, .int .i64 B, .int .i64 C, .int .i64 D]) ∧ FacOk a b A B C D ∧ Below w.heap.size w w'
def LeadRel (w : World) (g : Nat) (a b x0 y0 : Int) (s t : Value) (wr : World) : Prop :=
  ∃ A B C D x y : Int, s = .int .i64 x ∧ t = .int .i64 y ∧ Hid (LT a b x0 y0 A B C D x y) ∧ FB w.heap.size 0 0 0 0 wr ∧ FB g A B C D wr ∧ Hid (Below w.heap.size w wr)
theorem leading_any (A B : Option Addr) (n m ca cb : Nat) (f g : Nat → Nat) (w : World) (hn : n ≤ 999999) (hm : 2 < m) (hmn : m ≤ n) (hA : Dg w A n f) (hB : Dg w B m g)
    (hf : ∀ i, i < n → f i < W) (hg : ∀ i, i < m → g i < W) (hfn : Nrm f n) (hle : V g m ≤ V f n) :
    Calls Tryz.prog 265 #[.slice A n ca, .slice B m cb] w (RetF ((V f n : Nat) : Int) ((V g m : Nat) : Int) w) := by
  obtain ⟨r, r1, r2, r3, r4, -⟩ := bits_any A n ca f w (by omega) (by omega) hA hf hfn
  obtain ⟨cut, hcut⟩ : ∃ cut, cut = r - 60 := ⟨_, rfl⟩
  have HBt : Hid (∀ wx, Below w.heap.size w wx → Calls Tryz.prog 279 #[.slice A n ca] wx fun e w' => e = .returned (.int .i64 ((cut : Int) + 60)) ∧ wx = w') := fun wx hx => by
    obtain ⟨r', q1, q2, q3, q4, q5⟩ := bits_any A n ca f wx (by omega) (by omega) (hA.keep hx) hf hfn
    have e : r' = r := by
      have h1 : r - 1 < r' := (Nat.pow_lt_pow_iff_right (by omega : 1 < 2)).1 (Nat.lt_of_le_of_lt r3 q4)
      have h2 : r' - 1 < r := (Nat.pow_lt_pow_iff_right (by omega : 1 < 2)).1 (Nat.lt_of_le_of_lt q3 r4)
      omega
    subst e
    rw [show (cut : Int) + 60 = (r' : Int) from by omega]
    exact q5
  obtain ⟨P, hP⟩ : ∃ P, P = 2 ^ cut := ⟨_, rfl⟩
  have hP0 : 0 < P := by rw [hP]; exact two_pow_pos cut
  obtain ⟨X, hX⟩ : ∃ X, X = V f n / P := ⟨_, rfl⟩
  obtain ⟨Y, hY⟩ : ∃ Y, Y = V g m / P := ⟨_, rfl⟩
  have hX1 : X < 1152921504606846976 := by
    rw [hX, Nat.div_lt_iff_lt_mul hP0, hP, show (1152921504606846976 : Nat) = 2 ^ 60 from rfl, ← Nat.pow_add, show 60 + cut = r from by omega]
    exact r4
  have hX0 : 576460752303423488 ≤ X := by
    rw [hX, Nat.le_div_iff_mul_le hP0, hP, show (576460752303423488 : Nat) = 2 ^ 59 from rfl, ← Nat.pow_add, show 59 + cut = r - 1 from by omega]
    exact r3
  have hYX : Y ≤ X := by rw [hX, hY]; exact Nat.div_le_div_right hle
  have HWa : Hid (∀ wx, Below w.heap.size w wx → Calls Tryz.prog 280 #[.slice A n ca, .int .i64 (cut : Int)] wx fun e w' => e = .returned (.int .i64 (X : Int)) ∧ Drn wx w') := fun wx hx =>
    window_any A n ca cut (cut / 32) (cut % 32) X f wx (by omega) (by omega) (by omega) (hA.keep hx) hf (by omega) (by rw [hX, hP]) hX1
  have HWb : Hid (∀ wx, Below w.heap.size w wx → Calls Tryz.prog 280 #[.slice B m cb, .int .i64 (cut : Int)] wx fun e w' => e = .returned (.int .i64 (Y : Int)) ∧ Drn wx w') := fun wx hx =>
    window_any B m cb cut (cut / 32) (cut % 32) Y g wx (by omega) (by omega) (by omega) (hB.keep hx) hg (by omega) (by rw [hY, hP]) (by omega)
  have ha : ((V f n : Nat) : Int) = (X : Int) * (P : Int) + ((V f n % P : Nat) : Int) := by
    have := Nat.div_add_mod (V f n) P
    rw [← hX, Nat.mul_comm] at this
    rw [← Int.natCast_mul, ← Int.natCast_add, this]
  have hb : ((V g m : Nat) : Int) = (Y : Int) * (P : Int) + ((V g m % P : Nat) : Int) := by
    have := Nat.div_add_mod (V g m) P
    rw [← hY, Nat.mul_comm] at this
    rw [← Int.natCast_mul, ← Int.natCast_add, this]
  have ma := Nat.mod_lt (V f n) hP0
  have mb := Nat.mod_lt (V g m) hP0
  have hcb : cut ≤ 40000000 := by omega
  generalize ((V f n : Nat) : Int) = a at *
  generalize ((V g m : Nat) : Int) = b at *
  have HST : Hid (∀ A B C D x y q : Int, LT a b X Y A B C D x y → 0 < y + C → 0 < y + D → q * (y + C) ≤ x + A → x + A < q * (y + C) + (y + C) → q * (y + D) ≤ x + B → x + B < q * (y + D) + (y + D) → 0 ≤ q →
      LT a b X Y C D (A - q * C) (B - q * D) y (x - q * y) ∧ x - q * y < y) := fun A B C D x y q h1 h2 h3 h4 h5 h6 h7 h8 =>
    h1.step (by omega) (by omega) (by omega) (by omega) h2 h3 h4 h5 h6 h7 h8 ha hb (by omega) (by omega) (by omega) (by omega)
  have HBD : Hid (∀ A B C D x y : Int, LS X Y A B C D x y → 0 ≤ y ∧ y ≤ x ∧ x < 1152921504606846976 ∧ -2147483648 < A ∧ A < 2147483648 ∧ -2147483648 < B ∧ B < 2147483648 ∧ -2147483648 < C ∧ C < 2147483648 ∧ -2147483648 < D ∧ D < 2147483648 ∧ 0 ≤ x + A ∧ 0 ≤ x + B ∧ 0 ≤ y + C ∧ 0 ≤ y + D) := fun A B C D x y h =>
    h.bounds (by omega) (by omega) (by omega)
  have HS0 : Hid (LT a b X Y 1 0 0 1 X Y) := ⟨LS.start (by omega) (by omega), Or.inl ⟨rfl, rfl, rfl, rfl⟩⟩
  clear ha hb ma mb hX hY hP hP0 hX0 hX1 hYX r1 r2 r3 r4 hcut hle hfn hf hg
  go_enter Tryz.func265, Tryz.ntmps265
  go_wp2_with fail
  (with_reducible refine (HBt.out _ (below_alloc _ _)).mono ?_)
  rintro e w1 ⟨rfl, rfl⟩
  go_wp2_with fail
  (with_reducible refine (HWa.out _ (below_alloc _ _)).mono ?_)
  rintro e w1 ⟨rfl, hd1⟩
  have F1 := (FB.new w 0 0 0 0 287 rfl).keep (hd1.below _)
  have HB1 := Lib.hid ((below_alloc w (.cells #[.int .i64 0, .int .i64 0, .int .i64 0, .int .i64 0] 287)).trans (hd1.below _))
  clear hd1
  go_wp2_with fail
  (with_reducible refine (HWb.out _ HB1.out).mono ?_)
  rintro e w2 ⟨rfl, hd2⟩
  have F2 := F1.keep (hd2.below _)
  have HB2 := Lib.hid (HB1.out.trans (hd2.below _))
  have hne : w.heap.size ≠ w2.heap.size := by have := F2.lt; omega
  have hlw : w.heap.size ≤ w2.heap.size := HB2.out.size
  clear hd2 F1 HB1
  go_wp2_with fail
  generalize hg0 : w2.heap.size = g0 at *
  go_loopw [6, 7] (fun s t wr => LeadRel w g0 a b X Y s t wr) (fun _ t _ => (intOf t).toNat)
  case atStart => exact ⟨1, 0, 0, 1, X, Y, rfl, rfl, HS0, F2.keep (below_alloc _ _), FB.new w2 1 0 0 1 287 hg0.symm, Lib.hid (HB2.out.alloc HB2.out.size _)⟩
  case round =>
    obtain ⟨A', B', C', D', x, y, rfl, rfl, hlt, FR, FG, hbel⟩ := hrel
    have hbd := HBD.out _ _ _ _ _ _ hlt.out.ls
    obtain ⟨b1, b2, b3, b4, b5, b6, b7, b8, b9, b10, b11, b12, b13, b14, b15⟩ := hbd
    have HFR := Lib.hid FR
    have HFG := Lib.hid FG
    obtain ⟨r0, r1, r2, r3, rf0, rf1, rf2, rf3, rlt⟩ := FR
    obtain ⟨c0, c1, c2, c3, cf0, cf1, cf2, cf3, clt⟩ := FG
    by_cases z1 : y + C' = 0
    · have z1' : (y + C' != 0) = false := by simp [z1]
      clear F2 HB2 HS0 HST HBD HWa HWb HBt
      go_wp2_with fail
      exact bodyPost_ret (v := .agg #[.int .i64 A', .int .i64 B', .int .i64 C', .int .i64 D']) (by simp [results, Tryz.results265, go_sem, r0, r1, r2, r3]) rfl
        ⟨A', B', C', D', rfl, hlt.out.ok, (((hbel.out.setCell (Nat.le_refl _) _).setCell (Nat.le_refl _) _).setCell (Nat.le_refl _) _).setCell (Nat.le_refl _) _⟩
    · have z1' : (y + C' != 0) = true := by simp [z1]
      by_cases z2 : y + D' = 0
      · have z2' : (y + D' != 0) = false := by simp [z2]
        clear F2 HB2 HS0 HST HBD HWa HWb HBt
        go_wp2_with fail
        exact bodyPost_ret (v := .agg #[.int .i64 A', .int .i64 B', .int .i64 C', .int .i64 D']) (by simp [results, Tryz.results265, go_sem, r0, r1, r2, r3]) rfl
          ⟨A', B', C', D', rfl, hlt.out.ok, (((hbel.out.setCell (Nat.le_refl _) _).setCell (Nat.le_refl _) _).setCell (Nat.le_refl _) _).setCell (Nat.le_refl _) _⟩
      · have z2' : (y + D' != 0) = true := by simp [z2]
        obtain ⟨p1, p2, p3⟩ := hlt.out.ls.ypos z1 z2
        have hq1 := quo_bounds p1 b12
        have hq2 := quo_bounds p2 b13
        rw [Int.tdiv_eq_ediv_of_nonneg b12] at hq1
        rw [Int.tdiv_eq_ediv_of_nonneg b13] at hq2
        obtain ⟨q, hq⟩ : ∃ q, (x + A') / (y + C') = q := ⟨_, rfl⟩
        obtain ⟨q', hq'⟩ : ∃ q', (x + B') / (y + D') = q' := ⟨_, rfl⟩
        rw [hq] at hq1
        rw [hq'] at hq2
        obtain ⟨e1, e2, e3, e4⟩ := hq1
        obtain ⟨g1, g2, g3, g4⟩ := hq2
        have E := Lib.hid (And.intro e1 e2)
        have G := Lib.hid (And.intro g1 g2)
        clear e1 e2 g1 g2 F2 HB2 HS0 HWa HWb HBt
        by_cases hqq : q = q'
        · subst hqq
          obtain ⟨hl', hy'⟩ := HST.out _ _ _ _ _ _ q hlt.out p1 p2 E.out.1 E.out.2 G.out.1 G.out.2 e3
          have hbd' := HBD.out _ _ _ _ _ _ hl'.ls
          clear HST HBD E G
          have hqb : (q != q) = false := by simp
          obtain ⟨m1, hm1⟩ : ∃ m1, q * C' = m1 := ⟨_, rfl⟩
          obtain ⟨m2, hm2⟩ : ∃ m2, q * D' = m2 := ⟨_, rfl⟩
          obtain ⟨m3, hm3⟩ : ∃ m3, q * y = m3 := ⟨_, rfl⟩
          rw [hm1, hm2, hm3] at hbd' hl'
          have HL := Lib.hid hl'
          clear hl'
          rw [hm3] at hy'
          obtain ⟨d1, d2, d3, d4, d5, d6, d7, d8, d9, d10, d11, d12, d13, d14, d15⟩ := hbd'
          go_wp2_with fail
          exact ⟨⟨C', D', A' - m1, B' - m2, y, x - m3, rfl, rfl, HL, (((HFR.out.far hne _ _).far hne _ _).far hne _ _).far hne _ _, HFG.out.set _ _ _ _, Lib.hid ((((hbel.out.setCell hlw _).setCell hlw _).setCell hlw _).setCell hlw _)⟩, by simp only [intOf]; omega⟩
        · have hqb : (q != q') = true := by simp [hqq]
          clear HST HBD E G
          go_wp2_with fail
          exact bodyPost_ret (v := .agg #[.int .i64 A', .int .i64 B', .int .i64 C', .int .i64 D']) (by simp [results, Tryz.results265, go_sem, r0, r1, r2, r3]) rfl
            ⟨A', B', C', D', rfl, hlt.out.ok, (((hbel.out.setCell (Nat.le_refl _) _).setCell (Nat.le_refl _) _).setCell (Nat.le_refl _) _).setCell (Nat.le_refl _) _⟩
end Go.Proofs.YtmfnpipmbpnfbaaGreatDoor
