/- The greatest common divisor of numbers of any size in memory. -/
import Derived.Test.YtmfnpipmbpnfbaaGreatDoorF10
import Derived.Deep.RegionLawGrows

set_option maxRecDepth 100000
set_option maxHeartbeats 40000000
namespace Go.Proofs.YtmfnpipmbpnfbaaGreatDoor
open Go.RowKit
theorem stepB' {X wb w' : World} (h : Below X.heap.size X wb) (k : Below wb.heap.size wb w') : Below X.heap.size X w' := below_trans_same h k
theorem D.uniq {w : World} {v : Value} {x y : Nat} (h : D w v x) (h' : D w v y) : x = y := by
  obtain ⟨A, n, c, f, rfl, h2, h3, h4, h5, h6, h7⟩ := h
  obtain ⟨A', n', c', g, e, k2, k3, k4, k5, k6, k7⟩ := h'
  injection e with e1 e2 e3
  subst e1 e2 e3
  rw [← h5, ← k5]
  refine V_congr fun i hi => ?_
  obtain ⟨b, off, e, -, hc⟩ := h6 (by omega)
  obtain ⟨b', off', e', -, kc⟩ := k6 (by omega)
  rw [e] at e'
  injection e' with e'
  injection e' with e1 e2
  subst e1 e2
  have q := (hc i hi).symm.trans (kc i hi)
  injection q with q
  injection q with q1 q2
  omega
theorem d_size : ∃ F : Value → World → Nat, ∀ v w x, D w v x → F v w = x := by
  classical
  refine ⟨fun v w => if h : ∃ x, D w v x then Classical.choose h else 0, fun v w x hx => ?_⟩
  have h : ∃ x, D w v x := ⟨x, hx⟩
  show dite _ _ _ = _
  rw [dif_pos h]
  exact (Classical.choose_spec h).uniq hx
def GcdRel (w : World) (N G : Nat) (s t : Value) (wr : World) : Prop :=
  ∃ x y : Nat, Hid (D wr s x) ∧ Hid (D wr t y) ∧ Hid (y ≤ x) ∧ Hid (x < W ^ N) ∧ Hid (Nat.gcd x y = G) ∧ Hid (Below w.heap.size w wr)
theorem gcd_round {x y : Nat} {A B C D' : Int} (h : FacOk (x : Int) (y : Int) A B C D') (hB : B ≠ 0) :
    CombOk A B ∧ CombOk C D' ∧ ∃ r r' : Nat, A * (x : Int) + B * (y : Int) = (r : Int) ∧ C * (x : Int) + D' * (y : Int) = (r' : Int) ∧ r' < r ∧ r ≤ y ∧ Nat.gcd r r' = Nat.gcd x y := by
  rcases h with h | ⟨p, b1, b2, b3, b4, h1, h2, h3, h4⟩
  · exact absurd h hB
  · have ok1 : CombOk A B := ⟨by omega, by omega, by omega, by omega, by omega⟩
    have ok2 : CombOk C D' := ⟨by omega, by omega, by omega, by omega, by omega⟩
    obtain ⟨r, hr⟩ := Int.eq_ofNat_of_zero_le (show 0 ≤ A * (x : Int) + B * (y : Int) by omega)
    obtain ⟨r', hr'⟩ := Int.eq_ofNat_of_zero_le h1
    rw [hr, hr'] at h4
    refine ⟨ok1, ok2, r, r', hr, hr', by omega, by omega, ?_⟩
    exact h4
theorem D.tt' {w : World} {A : Option Addr} {n c x : Nat} (h : D w (.slice A n c) x) : TT w A n := by
  obtain ⟨A', n', c', f, e, h1, h2, h3, h4, h5, h6⟩ := h
  injection e with e1 e2 e3
  subst e1 e2 e3
  exact h6
theorem D.long {w : World} {A : Option Addr} {n c x : Nat} (h : D w (.slice A n c) x) (hn : 0 < n) : W ^ (n - 1) ≤ x := by
  obtain ⟨f, h1, h2, h3, h4, h5⟩ := h.open_
  rw [← h4]; exact V_pos hn h3
theorem D.lens {w : World} {A B : Option Addr} {n c m d x y : Nat} (h : D w (.slice A n c) x) (h' : D w (.slice B m d) y) (hle : y ≤ x) : m ≤ n := by
  obtain ⟨f, f1, f2, f3, f4, f5⟩ := h.open_
  refine h'.len ?_
  have := V_lt f2
  omega
theorem leadD_any (A B : Option Addr) (n m ca cb x y : Nat) (w : World) (h1 : D w (.slice A n ca) x) (h2 : D w (.slice B m cb) y) (hn : n ≤ 999999) (hm : 2 < m) (hle : y ≤ x) :
    Calls Tryz.prog 265 #[.slice A n ca, .slice B m cb] w (RetF (x : Int) (y : Int) w) := by
  have hmn := h1.lens h2 hle
  obtain ⟨f, f1, f2, f3, f4, f5⟩ := h1.open_
  obtain ⟨g, g1, g2, g3, g4, g5⟩ := h2.open_
  have := leading_any A B n m ca cb f g w hn hm hmn f5 g5 f2 g2 f3 (by rw [f4, g4]; exact hle)
  rw [f4, g4] at this
  exact this
theorem combD_any (A B : Option Addr) (n m ca cb x y r : Nat) (X Y : Int) (w : World) (h1 : D w (.slice A n ca) x) (h2 : D w (.slice B m cb) y) (hn : n ≤ 999999) (hle : y ≤ x) (hok : CombOk X Y) (hR : X * (x : Int) + Y * (y : Int) = (r : Int)) (hr : r ≤ x) :
    Calls Tryz.prog 267 #[.slice A n ca, .slice B m cb, .int .i64 X, .int .i64 Y] w (RetD r w) := by
  have hmn := h1.lens h2 hle
  have hp : x < W ^ n := by
    obtain ⟨f, f1, f2, f3, f4, f5⟩ := h1.open_
    rw [← f4]; exact V_lt f2
  obtain ⟨f, f1, f2, f3, f4, f5⟩ := h1.open_
  obtain ⟨g, g1, g2, g3, g4, g5⟩ := h2.open_
  exact combine_any A B n m ca cb f g X Y (r : Int) w (by omega) hmn f5 g5 f2 g2 hok (by rw [f4, g4]; exact hR) (by omega) (by omega)
theorem divideD' (A B : Option Addr) (n m c d x y : Nat) (w : World) (h1 : D w (.slice A n c) x) (h2 : D w (.slice B m d) y) (hn : n ≤ 999999) (hy : 0 < y) :
    Calls Tryz.prog 266 #[.slice A n c, .slice B m d] w (RetDiv x y w) := by
  obtain ⟨f, f1, f2, f3, f4, f5⟩ := h1.open_
  obtain ⟨g, g1, g2, g3, g4, g5⟩ := h2.open_
  rw [← f4, ← g4]
  exact divide_any A B n m c d f g w hn f1 f5 g5 f2 g2 f3 g3 h1.tt' (by rw [g4]; exact hy)
theorem gcd_step_eq {x y : Nat} : Nat.gcd y (x % y) = Nat.gcd x y := by rw [Nat.gcd_comm x y, Nat.gcd_rec y x, Nat.gcd_comm]
theorem gcdD_ge (A0 B0 : Option Addr) (n0 m0 ca0 cb0 x0 y0 : Nat) (w : World) (h1 : D w (.slice A0 n0 ca0) x0) (h2 : D w (.slice B0 m0 cb0) y0) (hn0 : n0 ≤ 999999) (hc : ¬ x0 < y0) :
    Calls Tryz.prog 240 #[.slice A0 n0 ca0, .slice B0 m0 cb0] w (RetD (Nat.gcd x0 y0) w) := by
  obtain ⟨N, hN⟩ : ∃ N, N = n0 := ⟨_, rfl⟩
  have hxN : x0 < W ^ N := by
    obtain ⟨f, f1, f2, f3, f4, f5⟩ := h1.open_
    rw [← f4, hN]; exact V_lt f2
  have HC : Hid (Calls Tryz.prog 217 #[.slice A0 n0 ca0, .slice B0 m0 cb0] w fun e w' => e = .returned (.int .i64 (cmpI (x0 : Int) (y0 : Int))) ∧ Drn w w') := by
    have hmn := h1.lens h2 (by omega)
    obtain ⟨f, f1, f2, f3, f4, f5⟩ := h1.open_
    obtain ⟨g, g1, g2, g3, g4, g5⟩ := h2.open_
    have := comp_any A0 B0 n0 m0 ca0 cb0 f g w (by omega) f5 g5 f2 g2 f3 g3
    rw [f4, g4] at this
    exact this
  obtain ⟨r, hr, hr0⟩ := cmpI_ge (x := (x0 : Int)) (y := (y0 : Int)) (by omega)
  rw [hr] at HC
  have hr1 : decide (r < 0) = false := by simp; omega
  have HN : Hid (N ≤ 999999) := by rw [hN]; exact hn0
  clear hr
  obtain ⟨G, hG⟩ : ∃ G, Nat.gcd x0 y0 = G := ⟨_, rfl⟩
  rw [hG]
  have HST : Hid (∀ wx, Drn w wx → GcdRel w N G (.slice A0 n0 ca0) (.slice B0 m0 cb0) wx) := fun wx hx =>
    ⟨x0, y0, Lib.hid (hx.d h1), Lib.hid (hx.d h2), Lib.hid (by omega), Lib.hid hxN, Lib.hid hG, Lib.hid (hx.below _)⟩
  clear h1 h2 hn0 hc hxN hN hG
  obtain ⟨F, hF⟩ := d_size
  have HF := Lib.hid hF
  clear hF
  go_enter Tryz.func240, Tryz.ntmps240
  go_wp2_with ((with_reducible refine HC.out.mono ?_); rintro e w1 ⟨rfl, hd⟩; (have HD := Lib.hid (HST.out _ hd)); clear hd)
  clear HC HST
  go_loopw [0, 1] (fun s t wr => GcdRel w N G s t wr) (fun _ t wr => F t wr)
  case atStart => exact HD.out
  case round =>
    clear HD
    obtain ⟨x, y, hDs, hDt, hyx, hxN, hG, hbel⟩ := hrel
    obtain ⟨A, n, c, rfl⟩ := hDs.out.shape
    obtain ⟨B, m, d, rfl⟩ := hDt.out.shape
    have hnN : n ≤ N := hDs.out.len hxN.out
    have hn9 : n ≤ 999999 := by have := HN.out; omega
    have hm9 : m ≤ 999999 := by have := hDs.out.lens hDt.out hyx.out; omega
    have HNN := Lib.hid hnN
    clear hnN
    by_cases hm2 : 2 < m
    · have hm2' : decide ((2 : Int) < (m : Int)) = true := by simp; omega
      have hy0 : Hid (0 < y) := by
        show 0 < y
        have := hDt.out.long (by omega)
        have := pow_pos' (m - 1)
        omega
      have HLD := Lib.hid (leadD_any A B n m c d x y wr hDs.out hDt.out hn9 hm2 hyx.out)
      go_wp2_with fail
      (with_reducible refine HLD.out.mono ?_)
      rintro e w1 ⟨A', B', C', D', rfl, hfac, hB1⟩
      have HFAC := Lib.hid hfac
      have HB1 := Lib.hid hB1
      clear HLD hfac hB1
      by_cases hz : B' = 0
      · subst hz
        go_wp2_with fail
        have hbx := HB1.out.alloc HB1.out.size (.cells #[.int .i64 A', .int .i64 0, .int .i64 C', .int .i64 D'] 287)
        have HBX := Lib.hid hbx
        clear hbx
        (with_reducible refine (divideD' A B n m c d x y _ (hDs.out.keep HBX.out) (hDt.out.keep HBX.out) hn9 hy0.out).mono ?_)
        rintro e w2 ⟨vq, vr, rfl, k1, k2, k3⟩
        have hb2 := hbel.out.trans ((HBX.out.trans (k3.mono HBX.out.size)).mono hbel.out.size)
        have hmod : x % y < y := Nat.mod_lt _ hy0.out
        have REL : GcdRel w N G (.slice B m d) vr w2 := ⟨y, x % y, Lib.hid ((hDt.out.keep HBX.out).keep k3), Lib.hid k2, Lib.hid (by omega), Lib.hid (by have := hyx.out; have := hxN.out; omega), Lib.hid (by rw [gcd_step_eq]; exact hG.out), Lib.hid hb2⟩
        have MEA : F vr w2 < F (.slice B m d) wr := by rw [HF.out _ _ _ k2, HF.out _ _ _ hDt.out]; exact hmod
        have HREL := Lib.hid REL
        have HMEA := Lib.hid MEA
        clear REL MEA hmod hb2 k1 k2 k3
        go_wp2_with fail
        exact ⟨HREL.out, HMEA.out⟩
      · have hz' : (B' == 0) = false := by simp [hz]
        obtain ⟨ok1, ok2, p, p', hp, hp', hpp, hpy, hgp⟩ := gcd_round HFAC.out hz
        go_wp2_with fail
        generalize hX : w1.alloc _ = X
        have FX : FB w1.heap.size A' B' C' D' X := by rw [← hX]; exact FB.new w1 A' B' C' D' 287 rfl
        have hwX : Below wr.heap.size wr X := by rw [← hX]; exact HB1.out.alloc HB1.out.size _
        generalize hg0 : w1.heap.size = g0 at *
        clear hX
        have HDX := Lib.hid (hDs.out.keep hwX)
        have HDY := Lib.hid (hDt.out.keep hwX)
        have HWX := Lib.hid hwX
        have HC1 : Hid (∀ wx, Below X.heap.size X wx → Calls Tryz.prog 267 #[.slice A n c, .slice B m d, .int .i64 A', .int .i64 B'] wx (RetD p wx)) := fun wx hx =>
          combD_any A B n m c d x y p A' B' wx (HDX.out.keep hx) (HDY.out.keep hx) hn9 hyx.out ok1 hp (by have := hyx.out; omega)
        have HC2 : Hid (∀ wx, Below X.heap.size X wx → Calls Tryz.prog 267 #[.slice A n c, .slice B m d, .int .i64 C', .int .i64 D'] wx (RetD p' wx)) := fun wx hx =>
          combD_any A B n m c d x y p' C' D' wx (HDX.out.keep hx) (HDY.out.keep hx) hn9 hyx.out ok2 hp' (by have := hyx.out; omega)
        have HPP := Lib.hid (And.intro hpp (And.intro hpy hgp))
        obtain ⟨c0, c1, c2, c3, -, -, -, -, clt⟩ := FX
        clear ok1 ok2 hp hp' hpp hpy hgp hwX HFAC HB1
        go_region_held3 (fun w' => w'.cell? ⟨g0, 0, none⟩ = some (.int .i64 A') ∧ w'.cell? ⟨g0, 1, none⟩ = some (.int .i64 B') ∧ w'.cell? ⟨g0, 2, none⟩ = some (.int .i64 C') ∧ w'.cell? ⟨g0, 3, none⟩ = some (.int .i64 D')) (simp [go_sem, *])
          (first
            | (go_at_call 267; (with_reducible refine (HC1.out _ (by repeat (first | exact Below.refl _ _ | refine Below.drew ?_ ))).mono ?_); rintro e wa ⟨va, rfl, hDa, hBa⟩; (have Ra : Below X.heap.size X wa := stepB' (by repeat (first | exact Below.refl _ _ | refine Below.drew ?_)) hBa); (have Ca := (bcell Ra).1); (have va1 := Nat.lt_of_lt_of_le clt Ra.size))
            | (go_at_call 267; (with_reducible refine (HC2.out _ (by repeat (first | exact Ra | refine Below.drew ?_ ))).mono ?_); rintro e wb ⟨vb, rfl, hDb, hBb⟩; (have Rb : Below X.heap.size X wb := stepB' (by repeat (first | exact Ra | refine Below.drew ?_)) hBb); (have Cb := (bcell Rb).1); (have vb1 := Nat.lt_of_lt_of_le clt Rb.size)))
        have hb2 := hbel.out.trans ((HWX.out.trans (Rb.mono HWX.out.size)).mono hbel.out.size)
        have HDa : D wb va p := hDa.keep (by repeat (first | exact hBb | exact Below.refl _ _ | refine Below.drew ?_))
        have HREL : Hid (GcdRel w N G va vb wb) := ⟨p, p', Lib.hid HDa, Lib.hid hDb, Lib.hid (by have := HPP.out.1; omega), Lib.hid (by have h1 := HPP.out.2.1; have h2 := hyx.out; have h3 := hxN.out; omega), Lib.hid (HPP.out.2.2.trans hG.out), Lib.hid hb2⟩
        have HMEA : Hid (F vb wb < F (.slice B m d) wr) := by
          show _ < _
          rw [HF.out _ _ _ hDb, HF.out _ _ _ hDt.out]
          have h1 := HPP.out
          omega
        clear HDa hb2 Ra Rb Ca Cb hBa hBb hDa hDb HC1 HC2 c0 c1 c2 c3 HPP HDX HDY HWX
        go_wp2_with fail
        exact ⟨HREL.out, HMEA.out⟩
    · have hm2' : decide ((2 : Int) < (m : Int)) = false := by simp; omega
      rcases Nat.eq_zero_or_pos m with h0 | h0
      · have hy0 : y = 0 := hDt.out.zero.2 h0
        have HG0 : Hid (x = G) := by
          have := hG.out
          rw [hy0, Nat.gcd_zero_right] at this
          exact this
        have hm0 : ((m : Int) == 0) = true := by rw [beq_iff_eq]; omega
        clear h0 hy0
        go_wp2_with fail
        go_ret
        exact ⟨_, rfl, by rw [← HG0.out]; exact hDs.out, hbel.out⟩
      · have hp : 0 < y := by
          rcases Nat.eq_zero_or_pos y with z | z
          · have := hDt.out.zero.1 z; omega
          · exact z
        have hm0 : ((m : Int) == 0) = false := by rw [beq_eq_false_iff_ne]; omega
        have HR := Lib.hid (divideD' A B n m c d x y wr hDs.out hDt.out hn9 hp)
        have HP := Lib.hid hp
        have HBW : Hid (∀ wx, Below wr.heap.size wr wx → Calls Tryz.prog 219 #[.slice B m d] wx fun e w' => e = .returned (.int .u64 ((y : Nat) : Int)) ∧ wx = w') := fun wx hx => by
          obtain ⟨g, g1, g2, g3, g4, g5⟩ := (hDt.out.keep hx).open_
          rw [← g4]
          exact wordm_any B m d g wx (by omega) g5 g2
        have H64 : Hid (y < 18446744073709551616) := by
          obtain ⟨g, g1, g2, g3, g4, g5⟩ := hDt.out.open_
          show y < _
          rw [← g4]
          exact V_lt_two g2 (by omega)
        clear hp h0 hm2 hm9 hn9
        go_wp2_with fail
        (with_reducible refine HR.out.mono ?_)
        rintro e w2 ⟨vq, vr, rfl, h1, h2, h3⟩
        obtain ⟨R, rn, rc, rf, rfl, r1, r2, r3, r4, r5, _⟩ := h2
        have hlt : V rf rn < y := by rw [r4]; exact Nat.mod_lt _ HP.out
        have hrn : rn ≤ 2 := by
          have := H64.out
          refine len_of_lt r3 ?_
          have e : W ^ 2 = 18446744073709551616 := by rw [W_eq]
          omega
        have hr64 : V rf rn < 18446744073709551616 := by have := H64.out; omega
        have hb2 := hbel.out.trans (h3.mono hbel.out.size)
        have HB2 := Lib.hid hb2
        have HB3 := Lib.hid h3
        have HW2 := Lib.hid (wordm_any R rn rc rf w2 hrn r5 r2)
        have HG2 := Lib.hid (fun wx => wordDiv_any y (V rf rn) wx H64.out hr64)
        have hgl : Nat.gcd y (V rf rn) < 18446744073709551616 := Nat.lt_of_le_of_lt (Nat.gcd_le_left _ HP.out) H64.out
        have HW3 := Lib.hid (fun wx => word_any (Nat.gcd y (V rf rn)) wx hgl)
        have HEQ : Hid (Nat.gcd y (V rf rn) = G) := by
          show _ = _
          rw [r4, gcd_step_eq]
          exact hG.out
        clear r1 r2 r3 r4 r5 hlt hrn hr64 hb2 hgl h1 h3 HR
        go_wp2_with fail
        (with_reducible refine (HBW.out _ HB3.out).mono ?_)
        rintro e w' ⟨rfl, rfl⟩
        go_wp2_with fail
        (with_reducible refine HW2.out.mono ?_)
        rintro e w' ⟨rfl, rfl⟩
        go_wp2_with fail
        (with_reducible refine (HG2.out _).mono ?_)
        rintro e w3 ⟨rfl, hd3⟩
        have HD3 := Lib.hid hd3
        clear hd3
        go_wp2_with fail
        (with_reducible refine (HW3.out _).mono ?_)
        rintro e w4 ⟨v4, rfl, hv4, hb4⟩
        go_wp2_with fail
        go_ret
        have hb3 := HB2.out.trans (HD3.out.below w.heap.size)
        exact ⟨v4, rfl, by rw [← HEQ.out]; exact hv4, hb3.trans (hb4.mono hb3.size)⟩
theorem gcdD_lt (A0 B0 : Option Addr) (n0 m0 ca0 cb0 x0 y0 : Nat) (w : World) (h1 : D w (.slice A0 n0 ca0) x0) (h2 : D w (.slice B0 m0 cb0) y0) (hn0 : m0 ≤ 999999) (hc : x0 < y0) :
    Calls Tryz.prog 240 #[.slice A0 n0 ca0, .slice B0 m0 cb0] w (RetD (Nat.gcd x0 y0) w) := by
  obtain ⟨N, hN⟩ : ∃ N, N = m0 := ⟨_, rfl⟩
  have hxN : y0 < W ^ N := by
    obtain ⟨f, f1, f2, f3, f4, f5⟩ := h2.open_
    rw [← f4, hN]; exact V_lt f2
  have HC : Hid (Calls Tryz.prog 217 #[.slice A0 n0 ca0, .slice B0 m0 cb0] w fun e w' => e = .returned (.int .i64 (cmpI (x0 : Int) (y0 : Int))) ∧ Drn w w') := by
    have hmn := h2.lens h1 (by omega)
    obtain ⟨f, f1, f2, f3, f4, f5⟩ := h1.open_
    obtain ⟨g, g1, g2, g3, g4, g5⟩ := h2.open_
    have := comp_any A0 B0 n0 m0 ca0 cb0 f g w (by omega) f5 g5 f2 g2 f3 g3
    rw [f4, g4] at this
    exact this
  have HCI : Hid (cmpI (x0 : Int) (y0 : Int) = -1) := cmpI_lt (by omega)
  rw [HCI.out] at HC
  clear HCI
  have HN : Hid (N ≤ 999999) := by rw [hN]; exact hn0
  obtain ⟨G, hG⟩ : ∃ G, Nat.gcd x0 y0 = G := ⟨_, rfl⟩
  rw [hG]
  have HST : Hid (∀ wx, Drn w wx → GcdRel w N G (.slice B0 m0 cb0) (.slice A0 n0 ca0) wx) := fun wx hx =>
    ⟨y0, x0, Lib.hid (hx.d h2), Lib.hid (hx.d h1), Lib.hid (by omega), Lib.hid hxN, Lib.hid (by rw [Nat.gcd_comm]; exact hG), Lib.hid (hx.below _)⟩
  clear h1 h2 hn0 hc hxN hN hG
  obtain ⟨F, hF⟩ := d_size
  have HF := Lib.hid hF
  clear hF
  go_enter Tryz.func240, Tryz.ntmps240
  go_wp2_with ((with_reducible refine HC.out.mono ?_); rintro e w1 ⟨rfl, hd⟩; (have HD := Lib.hid (HST.out _ hd)); clear hd)
  clear HC HST
  go_loopw [0, 1] (fun s t wr => GcdRel w N G s t wr) (fun _ t wr => F t wr)
  case atStart => exact HD.out
  case round =>
    clear HD
    obtain ⟨x, y, hDs, hDt, hyx, hxN, hG, hbel⟩ := hrel
    obtain ⟨A, n, c, rfl⟩ := hDs.out.shape
    obtain ⟨B, m, d, rfl⟩ := hDt.out.shape
    have hnN : n ≤ N := hDs.out.len hxN.out
    have hn9 : n ≤ 999999 := by have := HN.out; omega
    have hm9 : m ≤ 999999 := by have := hDs.out.lens hDt.out hyx.out; omega
    have HNN := Lib.hid hnN
    clear hnN
    by_cases hm2 : 2 < m
    · have hm2' : decide ((2 : Int) < (m : Int)) = true := by simp; omega
      have hy0 : Hid (0 < y) := by
        show 0 < y
        have := hDt.out.long (by omega)
        have := pow_pos' (m - 1)
        omega
      have HLD := Lib.hid (leadD_any A B n m c d x y wr hDs.out hDt.out hn9 hm2 hyx.out)
      go_wp2_with fail
      (with_reducible refine HLD.out.mono ?_)
      rintro e w1 ⟨A', B', C', D', rfl, hfac, hB1⟩
      have HFAC := Lib.hid hfac
      have HB1 := Lib.hid hB1
      clear HLD hfac hB1
      by_cases hz : B' = 0
      · subst hz
        go_wp2_with fail
        have hbx := HB1.out.alloc HB1.out.size (.cells #[.int .i64 A', .int .i64 0, .int .i64 C', .int .i64 D'] 287)
        have HBX := Lib.hid hbx
        clear hbx
        (with_reducible refine (divideD' A B n m c d x y _ (hDs.out.keep HBX.out) (hDt.out.keep HBX.out) hn9 hy0.out).mono ?_)
        rintro e w2 ⟨vq, vr, rfl, k1, k2, k3⟩
        have hb2 := hbel.out.trans ((HBX.out.trans (k3.mono HBX.out.size)).mono hbel.out.size)
        have hmod : x % y < y := Nat.mod_lt _ hy0.out
        have REL : GcdRel w N G (.slice B m d) vr w2 := ⟨y, x % y, Lib.hid ((hDt.out.keep HBX.out).keep k3), Lib.hid k2, Lib.hid (by omega), Lib.hid (by have := hyx.out; have := hxN.out; omega), Lib.hid (by rw [gcd_step_eq]; exact hG.out), Lib.hid hb2⟩
        have MEA : F vr w2 < F (.slice B m d) wr := by rw [HF.out _ _ _ k2, HF.out _ _ _ hDt.out]; exact hmod
        have HREL := Lib.hid REL
        have HMEA := Lib.hid MEA
        clear REL MEA hmod hb2 k1 k2 k3
        go_wp2_with fail
        exact ⟨HREL.out, HMEA.out⟩
      · have hz' : (B' == 0) = false := by simp [hz]
        obtain ⟨ok1, ok2, p, p', hp, hp', hpp, hpy, hgp⟩ := gcd_round HFAC.out hz
        go_wp2_with fail
        generalize hX : w1.alloc _ = X
        have FX : FB w1.heap.size A' B' C' D' X := by rw [← hX]; exact FB.new w1 A' B' C' D' 287 rfl
        have hwX : Below wr.heap.size wr X := by rw [← hX]; exact HB1.out.alloc HB1.out.size _
        generalize hg0 : w1.heap.size = g0 at *
        clear hX
        have HDX := Lib.hid (hDs.out.keep hwX)
        have HDY := Lib.hid (hDt.out.keep hwX)
        have HWX := Lib.hid hwX
        have HC1 : Hid (∀ wx, Below X.heap.size X wx → Calls Tryz.prog 267 #[.slice A n c, .slice B m d, .int .i64 A', .int .i64 B'] wx (RetD p wx)) := fun wx hx =>
          combD_any A B n m c d x y p A' B' wx (HDX.out.keep hx) (HDY.out.keep hx) hn9 hyx.out ok1 hp (by have := hyx.out; omega)
        have HC2 : Hid (∀ wx, Below X.heap.size X wx → Calls Tryz.prog 267 #[.slice A n c, .slice B m d, .int .i64 C', .int .i64 D'] wx (RetD p' wx)) := fun wx hx =>
          combD_any A B n m c d x y p' C' D' wx (HDX.out.keep hx) (HDY.out.keep hx) hn9 hyx.out ok2 hp' (by have := hyx.out; omega)
        have HPP := Lib.hid (And.intro hpp (And.intro hpy hgp))
        obtain ⟨c0, c1, c2, c3, -, -, -, -, clt⟩ := FX
        clear ok1 ok2 hp hp' hpp hpy hgp hwX HFAC HB1
        go_region_held3 (fun w' => w'.cell? ⟨g0, 0, none⟩ = some (.int .i64 A') ∧ w'.cell? ⟨g0, 1, none⟩ = some (.int .i64 B') ∧ w'.cell? ⟨g0, 2, none⟩ = some (.int .i64 C') ∧ w'.cell? ⟨g0, 3, none⟩ = some (.int .i64 D')) (simp [go_sem, *])
          (first
            | (go_at_call 267; (with_reducible refine (HC1.out _ (by repeat (first | exact Below.refl _ _ | refine Below.drew ?_ ))).mono ?_); rintro e wa ⟨va, rfl, hDa, hBa⟩; (have Ra : Below X.heap.size X wa := stepB' (by repeat (first | exact Below.refl _ _ | refine Below.drew ?_)) hBa); (have Ca := (bcell Ra).1); (have va1 := Nat.lt_of_lt_of_le clt Ra.size))
            | (go_at_call 267; (with_reducible refine (HC2.out _ (by repeat (first | exact Ra | refine Below.drew ?_ ))).mono ?_); rintro e wb ⟨vb, rfl, hDb, hBb⟩; (have Rb : Below X.heap.size X wb := stepB' (by repeat (first | exact Ra | refine Below.drew ?_)) hBb); (have Cb := (bcell Rb).1); (have vb1 := Nat.lt_of_lt_of_le clt Rb.size)))
        have hb2 := hbel.out.trans ((HWX.out.trans (Rb.mono HWX.out.size)).mono hbel.out.size)
        have HDa : D wb va p := hDa.keep (by repeat (first | exact hBb | exact Below.refl _ _ | refine Below.drew ?_))
        have HREL : Hid (GcdRel w N G va vb wb) := ⟨p, p', Lib.hid HDa, Lib.hid hDb, Lib.hid (by have := HPP.out.1; omega), Lib.hid (by have h1 := HPP.out.2.1; have h2 := hyx.out; have h3 := hxN.out; omega), Lib.hid (HPP.out.2.2.trans hG.out), Lib.hid hb2⟩
        have HMEA : Hid (F vb wb < F (.slice B m d) wr) := by
          show _ < _
          rw [HF.out _ _ _ hDb, HF.out _ _ _ hDt.out]
          have h1 := HPP.out
          omega
        clear HDa hb2 Ra Rb Ca Cb hBa hBb hDa hDb HC1 HC2 c0 c1 c2 c3 HPP HDX HDY HWX
        go_wp2_with fail
        exact ⟨HREL.out, HMEA.out⟩
    · have hm2' : decide ((2 : Int) < (m : Int)) = false := by simp; omega
      rcases Nat.eq_zero_or_pos m with h0 | h0
      · have hy0 : y = 0 := hDt.out.zero.2 h0
        have HG0 : Hid (x = G) := by
          have := hG.out
          rw [hy0, Nat.gcd_zero_right] at this
          exact this
        have hm0 : ((m : Int) == 0) = true := by rw [beq_iff_eq]; omega
        clear h0 hy0
        go_wp2_with fail
        go_ret
        exact ⟨_, rfl, by rw [← HG0.out]; exact hDs.out, hbel.out⟩
      · have hp : 0 < y := by
          rcases Nat.eq_zero_or_pos y with z | z
          · have := hDt.out.zero.1 z; omega
          · exact z
        have hm0 : ((m : Int) == 0) = false := by rw [beq_eq_false_iff_ne]; omega
        have HR := Lib.hid (divideD' A B n m c d x y wr hDs.out hDt.out hn9 hp)
        have HP := Lib.hid hp
        have HBW : Hid (∀ wx, Below wr.heap.size wr wx → Calls Tryz.prog 219 #[.slice B m d] wx fun e w' => e = .returned (.int .u64 ((y : Nat) : Int)) ∧ wx = w') := fun wx hx => by
          obtain ⟨g, g1, g2, g3, g4, g5⟩ := (hDt.out.keep hx).open_
          rw [← g4]
          exact wordm_any B m d g wx (by omega) g5 g2
        have H64 : Hid (y < 18446744073709551616) := by
          obtain ⟨g, g1, g2, g3, g4, g5⟩ := hDt.out.open_
          show y < _
          rw [← g4]
          exact V_lt_two g2 (by omega)
        clear hp h0 hm2 hm9 hn9
        go_wp2_with fail
        (with_reducible refine HR.out.mono ?_)
        rintro e w2 ⟨vq, vr, rfl, h1, h2, h3⟩
        obtain ⟨R, rn, rc, rf, rfl, r1, r2, r3, r4, r5, _⟩ := h2
        have hlt : V rf rn < y := by rw [r4]; exact Nat.mod_lt _ HP.out
        have hrn : rn ≤ 2 := by
          have := H64.out
          refine len_of_lt r3 ?_
          have e : W ^ 2 = 18446744073709551616 := by rw [W_eq]
          omega
        have hr64 : V rf rn < 18446744073709551616 := by have := H64.out; omega
        have hb2 := hbel.out.trans (h3.mono hbel.out.size)
        have HB2 := Lib.hid hb2
        have HB3 := Lib.hid h3
        have HW2 := Lib.hid (wordm_any R rn rc rf w2 hrn r5 r2)
        have HG2 := Lib.hid (fun wx => wordDiv_any y (V rf rn) wx H64.out hr64)
        have hgl : Nat.gcd y (V rf rn) < 18446744073709551616 := Nat.lt_of_le_of_lt (Nat.gcd_le_left _ HP.out) H64.out
        have HW3 := Lib.hid (fun wx => word_any (Nat.gcd y (V rf rn)) wx hgl)
        have HEQ : Hid (Nat.gcd y (V rf rn) = G) := by
          show _ = _
          rw [r4, gcd_step_eq]
          exact hG.out
        clear r1 r2 r3 r4 r5 hlt hrn hr64 hb2 hgl h1 h3 HR
        go_wp2_with fail
        (with_reducible refine (HBW.out _ HB3.out).mono ?_)
        rintro e w' ⟨rfl, rfl⟩
        go_wp2_with fail
        (with_reducible refine HW2.out.mono ?_)
        rintro e w' ⟨rfl, rfl⟩
        go_wp2_with fail
        (with_reducible refine (HG2.out _).mono ?_)
        rintro e w3 ⟨rfl, hd3⟩
        have HD3 := Lib.hid hd3
        clear hd3
        go_wp2_with fail
        (with_reducible refine (HW3.out _).mono ?_)
        rintro e w4 ⟨v4, rfl, hv4, hb4⟩
        go_wp2_with fail
        go_ret
        have hb3 := HB2.out.trans (HD3.out.below w.heap.size)
        exact ⟨v4, rfl, by rw [← HEQ.out]; exact hv4, hb3.trans (hb4.mono hb3.size)⟩
theorem gcdD_any (A B : Option Addr) (n m c d x y : Nat) (w : World) (h1 : D w (.slice A n c) x) (h2 : D w (.slice B m d) y) (hn : n ≤ 999999) (hm : m ≤ 999999) :
    Calls Tryz.prog 240 #[.slice A n c, .slice B m d] w (RetD (Nat.gcd x y) w) := by
  by_cases hc : x < y
  · exact gcdD_lt A B n m c d x y w h1 h2 hm hc
  · exact gcdD_ge A B n m c d x y w h1 h2 hn hc
theorem D.tt {w : World} {A : Option Addr} {n c x : Nat} (h : D w (.slice A n c) x) : TT w A n := by
  obtain ⟨A', n', c', f, e, h1, h2, h3, h4, h5, h6⟩ := h
  injection e with e1 e2 e3
  subst e1 e2 e3
  exact h6
theorem divisorI_all (b1 b2 : Bool) (A B : Option Addr) (n m c d x y : Nat) (w : World) (h1 : D w (.slice A n c) x) (h2 : D w (.slice B m d) y) (hn : n ≤ 999999) (hm : m ≤ 999999) :
    Calls Tryz.prog 213 #[.agg #[.bool b1, .slice A n c], .agg #[.bool b2, .slice B m d]] w (RetJ ((Nat.gcd x y : Nat) : Int) w) := by
  have HM : Hid (∀ wx, Below w.heap.size w wx → Calls Tryz.prog 240 #[.slice A n c, .slice B m d] wx (RetD (Nat.gcd x y) wx)) := fun wx hx => gcdD_any A B n m c d x y wx (h1.keep hx) (h2.keep hx) hn hm
  have HZ : Hid (false = decide (((Nat.gcd x y : Nat) : Int) < 0)) := by
    show false = _
    simp
  clear h1 h2
  go_enter Tryz.func213, Tryz.ntmps213
  go_wp2_with fail
  obtain ⟨bx, bb⟩ := box3 w (.cells #[.bool b1, .slice A n c] 183) (.cells #[.bool b2, .slice B m d] 183) #[.bool false, .slice none 0 0] 183
  have BB := Lib.hid bb
  have BX := Lib.hid bx
  clear bb bx
  (with_reducible refine (HM.out _ BB.out).mono ?_)
  rintro e w1 ⟨v, rfl, hD, hB⟩
  obtain ⟨A1, n1, c1, rfl⟩ := hD.shape
  obtain ⟨hc, hf⟩ := bcell hB
  go_wp2_with fail
  exact bodyPost_ret (v := .agg #[.bool false, .slice A1 n1 c1]) (by simp [results, Tryz.results213, go_sem, *]) rfl
    (retJ_box HZ.out hD (BX.out.keep hB) (BB.out.trans (hB.mono BB.out.size)) (by omega))
theorem divisorI_any (b1 b2 : Bool) (A B : Option Addr) (n m c d x y : Nat) (w : World) (h1 : D w (.slice A n c) x) (h2 : D w (.slice B m d) y) (hn : n ≤ 999999) (hm : m ≤ 999999) (_hs : x < 18446744073709551616 ∨ y < 18446744073709551616) :
    Calls Tryz.prog 213 #[.agg #[.bool b1, .slice A n c], .agg #[.bool b2, .slice B m d]] w (RetJ ((Nat.gcd x y : Nat) : Int) w) :=
  divisorI_all b1 b2 A B n m c d x y w h1 h2 hn hm
theorem whole_val (x : Int) (h0 : -9223372036854775808 ≤ x) (h1 : x < 0) : (-(x % 18446744073709551616)) % 18446744073709551616 = ((x.natAbs : Nat) : Int) := by omega
theorem whole_neg (x : Int) (w : World) (h0 : -9223372036854775808 ≤ x) (h1 : x < 0) : Calls Tryz.prog 212 #[.int .i64 x] w (RetJ x w) := by
  have hlt : x.natAbs < 18446744073709551616 := by omega
  have HW := Lib.hid (fun wx => word_any x.natAbs wx hlt)
  have HZ : Hid (true = decide (x < 0)) := by
    show true = _
    simp [h1]
  have hv := whole_val x h0 h1
  have HV := Lib.hid hv
  clear hlt hv h0
  go_enter Tryz.func212, Tryz.ntmps212
  go_wp2_with fail
  rw [show IntKind.u64.wrap (-IntKind.u64.wrap x) = ((x.natAbs : Nat) : Int) from by rw [IntKind.wrap_u64, IntKind.wrap_u64]; exact HV.out]
  (with_reducible refine (HW.out _).mono ?_)
  rintro e w1 ⟨v, rfl, hD, hB⟩
  obtain ⟨A1, n1, c1, rfl⟩ := hD.shape
  obtain ⟨hc, hf⟩ := bcell hB
  go_wp2_with fail
  exact bodyPost_ret (v := .agg #[.bool true, .slice A1 n1 c1]) (by simp [results, Tryz.results212, go_sem, *]) rfl
    (retJ_box HZ.out hD ((Bx.new' w _ 183 rfl).keep hB) ((below_alloc w _).trans (hB.mono (below_alloc w (.cells #[.bool false, .slice none 0 0] 183)).size)) (Nat.le_refl _))
theorem whole_pos (x : Int) (w : World) (h0 : 0 ≤ x) (h1 : x ≤ 9223372036854775807) : Calls Tryz.prog 212 #[.int .i64 x] w (RetJ x w) := by
  obtain ⟨k, rfl⟩ := Int.eq_ofNat_of_zero_le h0
  have hlt : k < 18446744073709551616 := by omega
  have HW := Lib.hid (fun wx => word_any k wx hlt)
  have HZ : Hid (false = decide ((k : Int) < 0)) := by
    show false = _
    simp
  have hk : k ≤ 9223372036854775807 := by omega
  clear hlt h0 h1
  go_enter Tryz.func212, Tryz.ntmps212
  go_wp2_with fail
  (with_reducible refine (HW.out _).mono ?_)
  rintro e w1 ⟨v, rfl, hD, hB⟩
  obtain ⟨A1, n1, c1, rfl⟩ := hD.shape
  obtain ⟨hc, hf⟩ := bcell hB
  go_wp2_with fail
  exact bodyPost_ret (v := .agg #[.bool false, .slice A1 n1 c1]) (by simp [results, Tryz.results212, go_sem, *]) rfl
    (retJ_box HZ.out hD ((Bx.new' w _ 183 rfl).keep hB) ((below_alloc w _).trans (hB.mono (below_alloc w (.cells #[.bool false, .slice none 0 0] 183)).size)) (Nat.le_refl _))
theorem whole_any (x : Int) (w : World) (h0 : -9223372036854775808 ≤ x) (h1 : x ≤ 9223372036854775807) : Calls Tryz.prog 212 #[.int .i64 x] w (RetJ x w) := by
  by_cases h : x < 0
  · exact whole_neg x w h0 h
  · exact whole_pos x w (by omega) h1
def RetJJ (z z' : Int) (w : World) (e : Ending) (w' : World) : Prop :=
  ∃ A n c A' n' c', e = .returned (.tuple #[.agg #[.bool (decide (z < 0)), .slice A n c], .agg #[.bool (decide (z' < 0)), .slice A' n' c']]) ∧ D w' (.slice A n c) z.natAbs ∧ D w' (.slice A' n' c') z'.natAbs ∧ Below w.heap.size w w'
theorem divideD_any (A B : Option Addr) (n m c d x y : Nat) (w : World) (h1 : D w (.slice A n c) x) (h2 : D w (.slice B m d) y) (hn : n ≤ 999999) (hy : 0 < y) :
    Calls Tryz.prog 266 #[.slice A n c, .slice B m d] w (RetDiv x y w) := by
  obtain ⟨f, f1, f2, f3, f4, f5⟩ := h1.open_
  obtain ⟨g, g1, g2, g3, g4, g5⟩ := h2.open_
  rw [← f4, ← g4]
  exact divide_any A B n m c d f g w hn f1 f5 g5 f2 g2 f3 g3 h1.tt (by rw [g4]; exact hy)
end Go.Proofs.YtmfnpipmbpnfbaaGreatDoor
