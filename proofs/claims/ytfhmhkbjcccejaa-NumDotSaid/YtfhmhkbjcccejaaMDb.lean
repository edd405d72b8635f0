/- Dot of the reference, for lists of at most 200 numbers. Dot of the reference, for any two lists of at most 200 numbers. Two lists of numbers that are the same. append([]Num{}, l...): a list is copied. The law NumDot. -/
import Derived.Test.YtfhmhkbjcccejaaMDa
import Derived.Test.YtfhmhkbjcccejaaMRe
import Derived.Deep.AppendLies
import Derived.Test.YtfhmhkbjcccejaaMPb

namespace Go.Proofs.Ytfhmhkbjcccejaa
open Go.RowKit

theorem W_lt_Bs {a b : Nat} (h : 32 * a < 30 * b) : W ^ a < Bs ^ b := by
  rw [show W = 2 ^ 32 from rfl, show Bs = 2 ^ 30 from rfl, ← Nat.pow_mul, ← Nat.pow_mul]
  exact Nat.pow_lt_pow_right (by decide) h

theorem Bd.ref {x : Rat} {k : Nat} (hk : k ≤ 900) (h : Bd x (W ^ k) (W ^ k)) : x.num.natAbs < Bs ^ 1000 ∧ x.den < Bs ^ 1000 :=
  ⟨Nat.lt_of_le_of_lt h.1 (@W_lt_Bs k 1000 (by omega)), Nat.lt_of_le_of_lt h.2 (@W_lt_Bs k 1000 (by omega))⟩

theorem Bd.w {x : Rat} (h : Bd x (2 ^ 120) (2 ^ 120)) : Bd x (W ^ 4) (W ^ 4) := ⟨Nat.le_trans h.1 W4_ge, Nat.le_trans h.2 W4_ge⟩

/-- The contracts of the loop. -/
structure DotH (A B : Option Addr) (n : Nat) (t l t' l' : Nat → Int) (w : World) : Prop where
  lA : Lnum w A n t l
  lB : Lnum w B n t' l'
  toA : ∀ i wx, i < n → Calls Try.prog 18 #[.agg #[.int .i64 (t i), .int .i64 (l i)]] wx (RetV (.rat (fr (t i) (l i))) wx)
  toB : ∀ i wx, i < n → Calls Try.prog 18 #[.agg #[.int .i64 (t' i), .int .i64 (l' i)]] wx (RetV (.rat (fr (t' i) (l' i))) wx)
  times : ∀ i wx u u', i < n → RFV wx u (fr (t i) (l i)) → RFV wx u' (fr (t' i) (l' i)) → Calls Try.prog 52 #[u, u'] wx (RetV (.rat (Pr t l t' l' i)) wx)
  plus : ∀ k wx u u', k < n → RFV wx u (sumQ (Pr t l t' l') k) → RFV wx u' (Pr t l t' l' k) → Calls Try.prog 51 #[u, u'] wx (RetV (.rat (sumQ (Pr t l t' l') (k + 1))) wx)
  num : ∀ wx u, RFV wx u (sumQ (Pr t l t' l') n) → Calls Try.prog 27 #[u] wx fun e w' => e = .returned (outN (sumQ (Pr t l t' l') n)) ∧ Below wx.heap.size wx w'

theorem rv_to' {t l : Int} (h : vld t l = true) (wx : World) : Calls Try.prog 18 #[.agg #[.int .i64 t, .int .i64 l]] wx (RetV (.rat (fr t l)) wx) := by
  obtain ⟨x, rfl, rfl, hx⟩ := vld_rat h
  obtain ⟨h1, h2⟩ := vld_le h
  rw [hx]
  exact rv_to x wx h1 h2

theorem fr_bd {t l : Int} (h : vld t l = true) : (fr t l).num.natAbs < Bs ^ 1000 ∧ (fr t l).den < Bs ^ 1000 := by
  obtain ⟨x, rfl, rfl, hx⟩ := vld_rat h
  obtain ⟨h1, h2⟩ := vld_le h
  rw [hx]
  have e : 1152921504606846976 ≤ W ^ 2 := by rw [W_eq]; decide
  exact Bd.ref (k := 2) (by omega) ⟨Nat.le_trans h1 e, Nat.le_trans h2 e⟩

theorem dotH {A B : Option Addr} {n : Nat} {t l t' l' : Nat → Int} {w : World} (hn : n ≤ 200) (hA : Lnum w A n t l) (hB : Lnum w B n t' l') (hv : ∀ i, i < n → vld (t i) (l i) = true) (hv' : ∀ i, i < n → vld (t' i) (l' i) = true) : DotH A B n t l t' l' w where
  lA := hA
  lB := hB
  toA := fun i wx hi => rv_to' (hv i hi) wx
  toB := fun i wx hi => rv_to' (hv' i hi) wx
  times := fun i wx u u' hi h h' => rv_times 1000 h h' (by omega) (fr_bd (hv i hi)) (fr_bd (hv' i hi))
  plus := fun k wx u u' hk h h' => rv_plus 1000 h h' (by omega)
    (Bd.ref (k := 4 * k + 1) (by omega) (Bd.dot_gen (by omega) (Nat.le_refl _) fun i hi => pr_bd (hv i (by omega)) (hv' i (by omega))))
    (Bd.ref (k := 4) (by omega) (pr_bd (hv k hk) (hv' k hk)).w)
  num := fun wx u h => rv_num 1000 h (by omega) (Bd.ref (k := 4 * n + 1) (by omega) (Bd.dot_gen (by omega) (Nat.le_refl _) fun i hi => pr_bd (hv i hi) (hv' i hi)))

theorem Wr.of_heap {g T : Nat} {w w' : World} (h : Wr g T w) (e : w'.heap[g]? = w.heap[g]?) : Wr g T w' := by
  obtain ⟨⟨p, q, h1, h2⟩, h3, h4, cs, fr, hc⟩ := h
  exact ⟨⟨p, q, (World.cell?_of_block (w := w) (a := ⟨g, 0, none⟩) e).trans h1, (World.cell?_of_block (w := w) (a := ⟨g, 1, none⟩) e).trans h2⟩, (World.frozen?_of_block (w := w) (a := ⟨g, 0, none⟩) e).trans h3, (World.frozen?_of_block (w := w) (a := ⟨g, 1, none⟩) e).trans h4, cs, fr, e.trans hc⟩

/-- Behind a round. -/
def EndD (w : World) (g : Nat) (x : Rat) (wx : World) : Prop := BR wx g x ∧ W6 g wx ∧ Wr w.heap.size 23 wx ∧ Below w.heap.size w wx
theorem dotEnd {w wr wx : World} {g : Nat} {x : Rat} {s s' : Int} {neg neg' : Bool} {A A' : Option Addr} {n c n' c' : Nat} (hg : w.heap.size < g) (hb : Below w.heap.size w wr) (hx : Below wr.heap.size wr wx) (hW : W6 g wx) (hr : Wr w.heap.size 23 wx) (h : RI wx s neg A n c x.num) (h' : RI wx s' neg' A' n' c' (x.den : Int)) :
    EndD w g x (set6 wx g (.int .i64 s) (.bool neg) (.slice A n c) (.int .i64 s') (.bool neg') (.slice A' n' c')) :=
  ⟨BR.put hW h h', hW.put' _ _ _ _ _ _, hr.of_heap (heap_set6 wx (by omega) _ _ _ _ _ _), set6_below (hb.trans (hx.mono hb.size)) (by omega) _ _ _ _ _ _⟩

/-- The state of the loop. -/
def DotL (w : World) (g n : Nat) (f : Nat → Rat) (i : Value) (wr : World) : Prop :=
  ∃ k : Nat, Hid (k ≤ n) ∧ i = .int .i64 (k : Int) ∧ Hid (BR wr g (sumQ f k)) ∧ Hid (W6 g wr) ∧ Hid (Wr w.heap.size 23 wr) ∧ Hid (Below w.heap.size w wr)

set_option maxRecDepth 100000 in
set_option maxHeartbeats 20000000 in
theorem rdot_ok (A B : Option Addr) (n ca cb : Nat) (t l t' l' : Nat → Int) (w : World) (hn : n ≤ 200) (H : DotH A B n t l t' l' w) (p q r : Int) (hov : outN (sumQ (Pr t l t' l') n) = .tuple #[.agg #[.int .i64 p, .int .i64 q], .int .i64 r])
    (HV1 : Hid (∀ wx, Below w.heap.size w wx → Calls Try.prog 43 #[.slice A n ca] wx fun e w' => e = .returned (.bool true) ∧ Below wx.heap.size wx w'))
    (HV2 : Hid (∀ wx, Below w.heap.size w wx → Calls Try.prog 43 #[.slice B n cb] wx fun e w' => e = .returned (.bool true) ∧ Below wx.heap.size wx w')) :
    Calls Try.prog 21 #[.slice A n ca, .slice B n cb] w fun e w' => e = .returned (.tuple #[.agg #[.int .i64 p, .int .i64 q], .int .i64 r]) ∧ Below w.heap.size w w' := by
  have HH := Lib.hid H
  have HN : Hid (∀ wx u, RFV wx u (sumQ (Pr t l t' l') n) → Calls Try.prog 27 #[u] wx fun e w' => e = .returned (.tuple #[.agg #[.int .i64 p, .int .i64 q], .int .i64 r]) ∧ Below wx.heap.size wx w') := fun wx u h => by
    have := H.num wx u h
    rw [hov] at this
    exact this
  have HW : Hid (∀ wx, Calls Try.prog 50 #[.int .i64 0] wx (RetV (.rat 0) wx)) := fun wx => rv_whole 0 0 wx ⟨rfl, rfl⟩ (by omega) (by omega)
  clear H hov
  have hb : ((n : Int) != (n : Int)) = false := by simp
  generalize hf : Pr t l t' l' = f at *
  go_enter Try.func21, Try.ntmps21
  go_upto_region 1 with fail
  generalize hX : w.alloc _ = X
  have hwX : Below w.heap.size w X := by rw [← hX]; exact below_alloc _ _
  have hWX : Wr w.heap.size 23 X := by rw [← hX]; exact Wr.new _ _ _ 23 rfl
  clear hX
  have HWX := Lib.hid hWX
  have HwX := Lib.hid hwX
  clear hWX hwX
  go_wp2_with fail
  (with_reducible refine (HV1.out X HwX.out).mono ?_)
  rintro e w1 ⟨rfl, hB1⟩
  have W1 := Lib.hid (HWX.out.keep hB1)
  have B1 := Lib.hid (HwX.out.trans (hB1.mono HwX.out.size))
  clear hB1 HV1 HWX HwX
  go_wp2_with fail
  (with_reducible refine (HV2.out w1 B1.out).mono ?_)
  rintro e w2 ⟨rfl, hB2⟩
  have W2 := Lib.hid (W1.out.keep hB2)
  have B2 := Lib.hid (B1.out.trans (hB2.mono B1.out.size))
  clear hB2 HV2 W1 B1
  go_wp2_with fail
  (with_reducible refine (HW.out w2).mono ?_)
  rintro e w3 ⟨u0, rfl, ⟨s0, neg0, A0, n0, c0, s0', neg0', A0', n0', c0', rfl, hr1, hr2⟩, hB3⟩
  have W3 := Lib.hid (W2.out.keep hB3)
  have B3 := Lib.hid (B2.out.trans (hB3.mono B2.out.size))
  clear hB3 HW W2 B2
  go_wp2_with fail
  generalize hY : w3.alloc _ = Y
  have hBY : Below w3.heap.size w3 Y := by rw [← hY]; exact below_alloc _ _
  have S0 : BR Y w3.heap.size (sumQ f 0) := by
    rw [sumQ_zero]
    refine ⟨s0, neg0, A0, n0, c0, s0', neg0', A0', n0', c0', ?_, hr1.keep hBY, hr2.keep hBY⟩
    rw [← hY]
    simp [B6, go_sem]
  have S1 : W6 w3.heap.size Y := by rw [← hY]; exact W6.new w3 _ _ _ _ _ _ rfl
  have HS0 := Lib.hid S0
  have HS1 := Lib.hid S1
  have HS2 := Lib.hid (W3.out.keep hBY)
  have HS3 := Lib.hid (B3.out.trans (hBY.mono B3.out.size))
  have hlg : w.heap.size < w3.heap.size := by obtain ⟨-, -, -, cs, fr, hc⟩ := W3.out; exact lt_of_heap hc
  clear hY hBY S0 S1 hr1 hr2 W3 B3
  generalize hg0 : w3.heap.size = g0 at *
  clear hg0
  go_loopw [28] (fun i wr => DotL w g0 n f i wr) (fun i _ => n - (intOf i).toNat)
  case atStart => exact ⟨0, Nat.zero_le _, rfl, HS0, HS1, HS2, HS3⟩
  case round =>
    clear HS0 HS1 HS2 HS3
    obtain ⟨k, hk, rfl, hbr, hw6, hwr, hbel⟩ := hrel
    by_cases hlt : k < n
    · have hlt' : (k : Int) < (n : Int) := by omega
      obtain ⟨b, off, rfl, hb1, hcA⟩ := HH.out.lA.keep hbel.out (by omega)
      obtain ⟨b', off', rfl, hb2, hcB⟩ := HH.out.lB.keep hbel.out (by omega)
      obtain ⟨a0, a1⟩ := hcA k hlt
      obtain ⟨a2, a3⟩ := hcB k hlt
      have HA := Lib.hid (fun wx => HH.out.toA k wx hlt)
      have HB := Lib.hid (fun wx => HH.out.toB k wx hlt)
      have HT := Lib.hid (fun wx u u' => HH.out.times k wx u u' hlt)
      have HP := Lib.hid (fun wx u u' => HH.out.plus k wx u u' hlt)
      rw [hf] at HT HP
      generalize htk : t k = tk at *
      generalize hlk : l k = lk at *
      generalize htk' : t' k = tk' at *
      generalize hlk' : l' k = lk' at *
      generalize hfx : fr tk lk = fx at *
      generalize hfy : fr tk' lk' = fy at *
      generalize hfk : f k = fk at *
      generalize hx0 : sumQ f k = x0 at *
      generalize hx1 : sumQ f (k + 1) = x1 at HP
      obtain ⟨s1, neg1, A1, n1, c1, s2, neg2, A2, n2, c2, ⟨k0, k1, k2, k3, k4, k5, kl⟩, hR1, hR2⟩ := hbr.out
      have HR := Lib.hid (And.intro hR1 hR2)
      have HBX : Hid (B6 g0 (.int .i64 s1) (.bool neg1) (.slice A1 n1 c1) (.int .i64 s2) (.bool neg2) (.slice A2 n2 c2) wr) := ⟨k0, k1, k2, k3, k4, k5, kl⟩
      clear hcA hcB hR1 hR2 HN k0 k1 k2 k3 k4 k5 kl hbr
      go_wp2_with fail
      refine wp_region_flow_store 13 [31, 32, 33, 34, 35, 36, 37, 38, 39, 40, 41, 42, 43] (fun i => 31 + i) (Below wr.heap.size wr) (EndD w g0 x1) (Spl [.rat x0, .val (.slice (some ⟨b, off, none⟩) n ca), .val (.int .i64 (k : Int)), .val (.pointer (some ⟨b, off + k * 2, none⟩)), .val (.agg #[.int .i64 tk, .int .i64 lk]), .rat fx, .val (.slice (some ⟨b', off', none⟩) n cb), .val (.int .i64 (k : Int)), .val (.pointer (some ⟨b', off' + k * 2, none⟩)), .val (.agg #[.int .i64 tk', .int .i64 lk']), .rat fy, .rat fk, .rat x1]) (by kernel_rfl) (by kernel_rfl) (by kernel_rfl) (by kernel_rfl) (by kernel_rfl) (fun i j _ _ h => Nat.add_left_cancel (show 31 + i = 31 + j from h)) (by decide) (fun wx wy (h : Below wr.heap.size wr wx) hb => h.trans (hb.mono h.size)) Spl.keep ?_ ?_ ?_ ?_
      · exact Below.drew (Below.refl _ _)
      · intro i v wx o T' K hi ho hF hdep hin hout hK
        have q31 := hin 31 (by decide)
        have q32 := hin 32 (by decide)
        have q33 := hin 33 (by decide)
        have q34 := hin 34 (by decide)
        have q35 := hin 35 (by decide)
        have q36 := hin 36 (by decide)
        have q37 := hin 37 (by decide)
        have q38 := hin 38 (by decide)
        have q39 := hin 39 (by decide)
        have q40 := hin 40 (by decide)
        have q41 := hin 41 (by decide)
        have q42 := hin 42 (by decide)
        have q43 := hin 43 (by decide)
        have sl0 : T'[0]? = some (.slice (some ⟨b, off, none⟩) n ca) := (hout 0 (by decide)).trans rfl
        have sl1 : T'[1]? = some (.slice (some ⟨b', off', none⟩) n cb) := (hout 1 (by decide)).trans rfl
        have sl6 : T'[6]? = some (.pointer (some ⟨g0, 0, none⟩)) := (hout 6 (by decide)).trans rfl
        have sl7 : T'[7]? = some (.int .i64 (k : Int)) := (hout 7 (by decide)).trans rfl
        clear hin hout
        have HF := Lib.hid hF
        have HD := Lib.hid hdep
        clear hF hdep
        rcases (by omega : i = 0 ∨ i = 1 ∨ i = 2 ∨ i = 3 ∨ i = 4 ∨ i = 5 ∨ i = 6 ∨ i = 7 ∨ i = 8 ∨ i = 9 ∨ i = 10 ∨ i = 11 ∨ i = 12) with rfl | rfl | rfl | rfl | rfl | rfl | rfl | rfl | rfl | rfl | rfl | rfl | rfl
        · obtain rfl := Option.some.inj ho
          obtain ⟨k0, k1, k2, k3, k4, k5, -⟩ := HBX.out.keep HF.out
          have hP := (⟨s1, neg1, A1, n1, c1, s2, neg2, A2, n2, c2, rfl, HR.out.1.keep HF.out, HR.out.2.keep HF.out⟩ : RFV wx (.agg #[.int .i64 s1, .bool neg1, .slice A1 n1 c1, .int .i64 s2, .bool neg2, .slice A2 n2 c2]) x0)
          clear q31 q32 q33 q34 q35 q36 q37 q38 q39 q40 q41 q42 q43 sl0 sl1 sl7 ho hi
          go_simp
          exact hK _ _ (Below.refl _ _) hP
        · obtain rfl := Option.some.inj ho
          clear q31 q32 q33 q34 q35 q36 q37 q38 q39 q40 q41 q42 q43 sl1 sl6 sl7 ho hi
          go_simp
          exact hK _ _ (Below.refl _ _) rfl
        · obtain rfl := Option.some.inj ho
          clear q31 q32 q33 q34 q35 q36 q37 q38 q39 q40 q41 q42 q43 sl0 sl1 sl6 ho hi
          go_simp
          exact hK _ _ (Below.refl _ _) rfl
        · obtain rfl := Option.some.inj ho
          have e0 : v 32 = (.slice (some ⟨b, off, none⟩) n ca) := HD.out ⟨1, .data⟩ (by simp) rfl
          rw [e0] at q32
          have e1 : v 33 = (.int .i64 (k : Int)) := HD.out ⟨2, .data⟩ (by simp) rfl
          rw [e1] at q33
          clear q31 q34 q35 q36 q37 q38 q39 q40 q41 q42 q43 sl0 sl1 sl6 sl7 ho hi
          go_simp
          exact hK _ _ (Below.refl _ _) rfl
        · obtain rfl := Option.some.inj ho
          have e1 : v 34 = (.pointer (some ⟨b, off + k * 2, none⟩)) := HD.out ⟨3, .data⟩ (by simp) rfl
          rw [e1] at q34
          obtain ⟨j0, j1⟩ := And.intro ((HF.out.cell (p := ⟨b, off + k * 2, none⟩) hb1).trans a0) ((HF.out.cell (p := ⟨b, off + k * 2 + 1, none⟩) hb1).trans a1)
          have hP := (rfl : (Value.agg #[.int .i64 tk, .int .i64 lk]) = .agg #[.int .i64 tk, .int .i64 lk])
          clear q31 q32 q33 q35 q36 q37 q38 q39 q40 q41 q42 q43 sl0 sl1 sl6 sl7 ho hi
          go_simp
          exact hK _ _ (Below.refl _ _) hP
        · obtain rfl := Option.some.inj ho
          have e0 : v 35 = (.agg #[.int .i64 tk, .int .i64 lk]) := HD.out ⟨4, .data⟩ (by simp) rfl
          rw [e0] at q35
          clear q31 q32 q33 q34 q36 q37 q38 q39 q40 q41 q42 q43 sl0 sl1 sl6 sl7 ho hi
          go_simp
          (with_reducible refine (HA.out _).mono ?_)
          rintro e w2 ⟨u, rfl, hu, hB⟩
          exact hK _ _ hB hu
        · obtain rfl := Option.some.inj ho
          clear q31 q32 q33 q34 q35 q36 q37 q38 q39 q40 q41 q42 q43 sl0 sl6 sl7 ho hi
          go_simp
          exact hK _ _ (Below.refl _ _) rfl
        · obtain rfl := Option.some.inj ho
          clear q31 q32 q33 q34 q35 q36 q37 q38 q39 q40 q41 q42 q43 sl0 sl1 sl6 ho hi
          go_simp
          exact hK _ _ (Below.refl _ _) rfl
        · obtain rfl := Option.some.inj ho
          have e0 : v 37 = (.slice (some ⟨b', off', none⟩) n cb) := HD.out ⟨6, .data⟩ (by simp) rfl
          rw [e0] at q37
          have e1 : v 38 = (.int .i64 (k : Int)) := HD.out ⟨7, .data⟩ (by simp) rfl
          rw [e1] at q38
          clear q31 q32 q33 q34 q35 q36 q39 q40 q41 q42 q43 sl0 sl1 sl6 sl7 ho hi
          go_simp
          exact hK _ _ (Below.refl _ _) rfl
        · obtain rfl := Option.some.inj ho
          have e1 : v 39 = (.pointer (some ⟨b', off' + k * 2, none⟩)) := HD.out ⟨8, .data⟩ (by simp) rfl
          rw [e1] at q39
          obtain ⟨j0, j1⟩ := And.intro ((HF.out.cell (p := ⟨b', off' + k * 2, none⟩) hb2).trans a2) ((HF.out.cell (p := ⟨b', off' + k * 2 + 1, none⟩) hb2).trans a3)
          have hP := (rfl : (Value.agg #[.int .i64 tk', .int .i64 lk']) = .agg #[.int .i64 tk', .int .i64 lk'])
          clear q31 q32 q33 q34 q35 q36 q37 q38 q40 q41 q42 q43 sl0 sl1 sl6 sl7 ho hi
          go_simp
          exact hK _ _ (Below.refl _ _) hP
        · obtain rfl := Option.some.inj ho
          have e0 : v 40 = (.agg #[.int .i64 tk', .int .i64 lk']) := HD.out ⟨9, .data⟩ (by simp) rfl
          rw [e0] at q40
          clear q31 q32 q33 q34 q35 q36 q37 q38 q39 q41 q42 q43 sl0 sl1 sl6 sl7 ho hi
          go_simp
          (with_reducible refine (HB.out _).mono ?_)
          rintro e w2 ⟨u, rfl, hu, hB⟩
          exact hK _ _ hB hu
        · obtain rfl := Option.some.inj ho
          have h0 : RFV wx (v 36) fx := HD.out ⟨5, .data⟩ (by simp) rfl
          have h1 : RFV wx (v 41) fy := HD.out ⟨10, .data⟩ (by simp) rfl
          clear q31 q32 q33 q34 q35 q37 q38 q39 q40 q42 q43 sl0 sl1 sl6 sl7 ho hi
          go_simp
          (with_reducible refine (HT.out _ _ _ h0 h1).mono ?_)
          rintro e w2 ⟨u, rfl, hu, hB⟩
          exact hK _ _ hB hu
        · obtain rfl := Option.some.inj ho
          have h0 : RFV wx (v 31) x0 := HD.out ⟨0, .data⟩ (by simp) rfl
          have h1 : RFV wx (v 42) fk := HD.out ⟨11, .data⟩ (by simp) rfl
          clear q32 q33 q34 q35 q36 q37 q38 q39 q40 q41 q43 sl0 sl1 sl6 sl7 ho hi
          go_simp
          (with_reducible refine (HP.out _ _ _ h0 h1).mono ?_)
          rintro e w2 ⟨u, rfl, hu, hB⟩
          exact hK _ _ hB hu
      · intro v wx o T' K ho hF hall hin hout hK
        obtain rfl := Option.some.inj ho
        have sl6 : T'[6]? = some (.pointer (some ⟨g0, 0, none⟩)) := (hout 6 (by decide)).trans rfl
        have q43 := hin 43 (by decide)
        have h0 : RFV wx (v 43) x1 := hall 12 (by decide)
        clear hin hout hall ho
        obtain ⟨s5, n5, A5, m5, c5, s6, n6, A6, m6, c6, e5, h5, h6⟩ := h0
        rw [e5] at q43
        have HRR := Lib.hid (dotEnd hlg hbel.out hF (hw6.out.keep hF) (hwr.out.keep hF) h5 h6)
        obtain ⟨⟨o0, o1, o2, o3, o4, o5, p0, p1, p2, p3, p4, p5⟩, ⟨f0, f1, f2, f3, f4, f5⟩, -⟩ := hw6.out.keep hF
        clear e5 h5 h6 hF
        go_simp
        exact hK _ HRR.out
      · intro v wx hE
        have HE := Lib.hid hE
        clear hE
        simp only [over, List.setIfInBounds_toArray, List.set_cons_zero, List.set_cons_succ]
        generalize v 31 = v31
        generalize v 32 = v32
        generalize v 33 = v33
        generalize v 34 = v34
        generalize v 35 = v35
        generalize v 36 = v36
        generalize v 37 = v37
        generalize v 38 = v38
        generalize v 39 = v39
        generalize v 40 = v40
        generalize v 41 = v41
        generalize v 42 = v42
        generalize v 43 = v43
        go_wp2_with fail
        exact ⟨⟨k + 1, Lib.hid (by omega), by rw [show ((k + 1 : Nat) : Int) = (k : Int) + 1 from by omega], Lib.hid (by show BR _ _ _; rw [hx1]; exact HE.out.1), Lib.hid HE.out.2.1, Lib.hid HE.out.2.2.1, Lib.hid HE.out.2.2.2⟩, by simp [intOf]; omega⟩
    · have hke : k = n := by have := hk.out; omega
      have hlt' : ¬ (k : Int) < (n : Int) := by omega
      obtain ⟨s1, neg1, A1, n1, c1, s2, neg2, A2, n2, c2, ⟨k0, k1, k2, k3, k4, k5, kl⟩, hR1, hR2⟩ := hbr.out
      have HV := Lib.hid (show RFV wr (.agg #[.int .i64 s1, .bool neg1, .slice A1 n1 c1, .int .i64 s2, .bool neg2, .slice A2 n2 c2]) (sumQ f n) from ⟨s1, neg1, A1, n1, c1, s2, neg2, A2, n2, c2, rfl, by rw [← hke]; exact hR1, by rw [← hke]; exact hR2⟩)
      clear hR1 hR2 hke hbr HH
      go_wp2_with fail
      (with_reducible refine (HN.out _ _ HV.out).mono ?_)
      rintro e w4 ⟨rfl, hB4⟩
      have W4 := Lib.hid (hwr.out.keep hB4)
      have B4 := Lib.hid (hbel.out.trans (hB4.mono hbel.out.size))
      clear hB4 k0 k1 k2 k3 k4 k5
      obtain ⟨⟨p1, p2, p3, p4⟩, p5, p6, p7⟩ := W4.out
      go_wp2_with fail
      exact bodyPost_ret (v := .tuple #[.agg #[.int .i64 p, .int .i64 q], .int .i64 r]) (by simp [results, Try.results21, go_sem, *]) rfl ⟨rfl, (B4.out.setCell (Nat.le_refl _) _).setCell (Nat.le_refl _) _⟩

end Go.Proofs.Ytfhmhkbjcccejaa

namespace Go.Proofs.Ytfhmhkbjcccejaa
open Go.RowKit

set_option maxRecDepth 100000 in
set_option maxHeartbeats 4000000 in
theorem rdot_bad1 (A B : Option Addr) (n m ca cb : Nat) (w : World) (_hn : n ≤ 1000000) (_hm : m ≤ 1000000)
    (HV1 : Hid (∀ wx, Below w.heap.size w wx → Calls Try.prog 43 #[.slice A n ca] wx fun e w' => e = .returned (.bool false) ∧ Below wx.heap.size wx w')) :
    Calls Try.prog 21 #[.slice A n ca, .slice B m cb] w fun e w' => e = .returned (.tuple #[.agg #[.int .i64 0, .int .i64 0], .int .i64 1]) ∧ Below w.heap.size w w' := by
  go_enter Try.func21, Try.ntmps21
  go_upto_region 1 with fail
  generalize hX : w.alloc _ = X
  have hwX : Below w.heap.size w X := by rw [← hX]; exact below_alloc _ _
  have hWX : Wr w.heap.size 23 X := by rw [← hX]; exact Wr.new _ _ _ 23 rfl
  clear hX
  have HWX := Lib.hid hWX
  have HwX := Lib.hid hwX
  clear hWX hwX
  go_wp2_with fail
  (with_reducible refine (HV1.out X HwX.out).mono ?_)
  rintro e w1 ⟨rfl, hB1⟩
  have W1 := Lib.hid (HWX.out.keep hB1)
  have B1 := Lib.hid (HwX.out.trans (hB1.mono HwX.out.size))
  clear hB1 HV1 HWX HwX
  obtain ⟨⟨p1, p2, p3, p4⟩, p5, p6, p7⟩ := W1.out
  go_wp2_with fail
  exact bodyPost_ret (v := .tuple #[.agg #[.int .i64 0, .int .i64 0], .int .i64 1]) (by simp [results, Try.results21, go_sem, *]) rfl ⟨rfl, (B1.out.setCell (Nat.le_refl _) _).setCell (Nat.le_refl _) _⟩

set_option maxRecDepth 100000 in
set_option maxHeartbeats 4000000 in
theorem rdot_bad2 (A B : Option Addr) (n m ca cb : Nat) (w : World) (_hn : n ≤ 1000000) (_hm : m ≤ 1000000)
    (HV1 : Hid (∀ wx, Below w.heap.size w wx → Calls Try.prog 43 #[.slice A n ca] wx fun e w' => e = .returned (.bool true) ∧ Below wx.heap.size wx w'))
    (HV2 : Hid (∀ wx, Below w.heap.size w wx → Calls Try.prog 43 #[.slice B m cb] wx fun e w' => e = .returned (.bool false) ∧ Below wx.heap.size wx w')) :
    Calls Try.prog 21 #[.slice A n ca, .slice B m cb] w fun e w' => e = .returned (.tuple #[.agg #[.int .i64 0, .int .i64 0], .int .i64 1]) ∧ Below w.heap.size w w' := by
  go_enter Try.func21, Try.ntmps21
  go_upto_region 1 with fail
  generalize hX : w.alloc _ = X
  have hwX : Below w.heap.size w X := by rw [← hX]; exact below_alloc _ _
  have hWX : Wr w.heap.size 23 X := by rw [← hX]; exact Wr.new _ _ _ 23 rfl
  clear hX
  have HWX := Lib.hid hWX
  have HwX := Lib.hid hwX
  clear hWX hwX
  go_wp2_with fail
  (with_reducible refine (HV1.out X HwX.out).mono ?_)
  rintro e w1 ⟨rfl, hB1⟩
  have W1 := Lib.hid (HWX.out.keep hB1)
  have B1 := Lib.hid (HwX.out.trans (hB1.mono HwX.out.size))
  clear hB1 HV1 HWX HwX
  go_wp2_with fail
  (with_reducible refine (HV2.out w1 B1.out).mono ?_)
  rintro e w2 ⟨rfl, hB2⟩
  have W2 := Lib.hid (W1.out.keep hB2)
  have B2 := Lib.hid (B1.out.trans (hB2.mono B1.out.size))
  clear hB2 HV2
  obtain ⟨⟨p1, p2, p3, p4⟩, p5, p6, p7⟩ := W2.out
  go_wp2_with fail
  exact bodyPost_ret (v := .tuple #[.agg #[.int .i64 0, .int .i64 0], .int .i64 1]) (by simp [results, Try.results21, go_sem, *]) rfl ⟨rfl, (B2.out.setCell (Nat.le_refl _) _).setCell (Nat.le_refl _) _⟩

set_option maxRecDepth 100000 in
set_option maxHeartbeats 4000000 in
theorem rdot_dim (A B : Option Addr) (n m ca cb : Nat) (w : World) (_hn : n ≤ 1000000) (_hm : m ≤ 1000000)
    (HV1 : Hid (∀ wx, Below w.heap.size w wx → Calls Try.prog 43 #[.slice A n ca] wx fun e w' => e = .returned (.bool true) ∧ Below wx.heap.size wx w'))
    (HV2 : Hid (∀ wx, Below w.heap.size w wx → Calls Try.prog 43 #[.slice B m cb] wx fun e w' => e = .returned (.bool true) ∧ Below wx.heap.size wx w')) (hne : n ≠ m) :
    Calls Try.prog 21 #[.slice A n ca, .slice B m cb] w fun e w' => e = .returned (.tuple #[.agg #[.int .i64 0, .int .i64 0], .int .i64 2]) ∧ Below w.heap.size w w' := by
  have hb : ((n : Int) != (m : Int)) = true := by rw [bne_iff_ne]; omega
  go_enter Try.func21, Try.ntmps21
  go_upto_region 1 with fail
  generalize hX : w.alloc _ = X
  have hwX : Below w.heap.size w X := by rw [← hX]; exact below_alloc _ _
  have hWX : Wr w.heap.size 23 X := by rw [← hX]; exact Wr.new _ _ _ 23 rfl
  clear hX
  have HWX := Lib.hid hWX
  have HwX := Lib.hid hwX
  clear hWX hwX
  go_wp2_with fail
  (with_reducible refine (HV1.out X HwX.out).mono ?_)
  rintro e w1 ⟨rfl, hB1⟩
  have W1 := Lib.hid (HWX.out.keep hB1)
  have B1 := Lib.hid (HwX.out.trans (hB1.mono HwX.out.size))
  clear hB1 HV1 HWX HwX
  go_wp2_with fail
  (with_reducible refine (HV2.out w1 B1.out).mono ?_)
  rintro e w2 ⟨rfl, hB2⟩
  have W2 := Lib.hid (W1.out.keep hB2)
  have B2 := Lib.hid (B1.out.trans (hB2.mono B1.out.size))
  clear hB2 HV2
  obtain ⟨⟨p1, p2, p3, p4⟩, p5, p6, p7⟩ := W2.out
  go_wp2_with fail
  exact bodyPost_ret (v := .tuple #[.agg #[.int .i64 0, .int .i64 0], .int .i64 2]) (by simp [results, Try.results21, go_sem, *]) rfl ⟨rfl, (B2.out.setCell (Nat.le_refl _) _).setCell (Nat.le_refl _) _⟩

theorem rdot_any (A B : Option Addr) (n m ca cb : Nat) (t l t' l' : Nat → Int) (w : World) (hn : n ≤ 200) (hm : m ≤ 200) (hA : Lnum w A n t l) (hB : Lnum w B m t' l') :
    Calls Try.prog 21 #[.slice A n ca, .slice B m cb] w fun e w' => e = .returned (val3 (dotT n m t l t' l')) ∧ Below w.heap.size w w' := by
  have HV1 : Hid (∀ wx, Below w.heap.size w wx → Calls Try.prog 43 #[.slice A n ca] wx fun e w' => e = .returned (.bool (allB (fun i => vld (t i) (l i)) n)) ∧ Below wx.heap.size wx w') := fun wx hx => rall_any A n ca t l wx (by omega) (hA.keep hx)
  have HV2 : Hid (∀ wx, Below w.heap.size w wx → Calls Try.prog 43 #[.slice B m cb] wx fun e w' => e = .returned (.bool (allB (fun i => vld (t' i) (l' i)) m)) ∧ Below wx.heap.size wx w') := fun wx hx => rall_any B m cb t' l' wx (by omega) (hB.keep hx)
  unfold dotT
  cases h1 : allB (fun i => vld (t i) (l i)) n with
  | false =>
    rw [h1] at HV1
    exact rdot_bad1 A B n m ca cb w (by omega) (by omega) HV1
  | true =>
    rw [h1] at HV1
    cases h2 : allB (fun i => vld (t' i) (l' i)) m with
    | false =>
      rw [h2] at HV2
      exact rdot_bad2 A B n m ca cb w (by omega) (by omega) HV1 HV2
    | true =>
      rw [h2] at HV2
      by_cases hne : n = m
      · subst hne
        rw [if_pos (show (true && true) = true from rfl), if_pos rfl]
        exact rdot_ok A B n ca cb t l t' l' w hn (dotH hn hA hB (fun i hi => allB_get h1 hi) (fun i hi => allB_get h2 hi)) _ _ _ (outN_val _) HV1 HV2
      · rw [if_pos (show (true && true) = true from rfl), if_neg hne]
        exact rdot_dim A B n m ca cb w (by omega) (by omega) HV1 HV2 hne

end Go.Proofs.Ytfhmhkbjcccejaa

namespace Go.Proofs.Ytfhmhkbjcccejaa
open Go.RowKit

set_option maxRecDepth 100000 in
set_option maxHeartbeats 4000000 in
theorem same_any (A B : Option Addr) (n ca cb : Nat) (t l : Nat → Int) (w : World) (hn : n ≤ 1000000) (hA : Lnum w A n t l) (hB : Lnum w B n t l) :
    Calls Try.prog 23 #[.slice A n ca, .slice B n cb] w fun e w' => e = .returned (.bool true) ∧ Drn w w' := by
  have HA := Lib.hid hA
  have HB := Lib.hid hB
  have hb : ((n : Int) != (n : Int)) = false := by simp
  clear hA hB
  go_enter Try.func23, Try.ntmps23
  go_wp2_with fail
  go_loopw [13] (fun i wr => ∃ k : Nat, Hid (k ≤ n) ∧ i = .int .i64 (k : Int) ∧ Hid (Drn w wr)) (fun i _ => n - (intOf i).toNat)
  case atStart => exact ⟨0, Nat.zero_le _, rfl, Lib.hid (Drn.refl _)⟩
  case round =>
    obtain ⟨k, hk, rfl, hD⟩ := hrel
    by_cases hlt : k < n
    · obtain ⟨b, off, rfl, hb1, hcA⟩ := HA.out.keep (hD.out.below _) (by omega)
      obtain ⟨b', off', rfl, hb2, hcB⟩ := HB.out.keep (hD.out.below _) (by omega)
      obtain ⟨a0, a1⟩ := hcA k hlt
      obtain ⟨a2, a3⟩ := hcB k hlt
      generalize t k = tk at *
      generalize l k = lk at *
      have hlt' : (k : Int) < (n : Int) := by omega
      clear hcA hcB
      go_wp2_with fail
      go_quiet (fail)
      go_wp2_with fail
      exact ⟨⟨k + 1, Lib.hid (by omega), by rw [show ((k + 1 : Nat) : Int) = (k : Int) + 1 from by omega], Lib.hid (hD.out.more _)⟩, by simp [intOf]; omega⟩
    · have hke : k = n := by have := hk.out; omega
      have hlt' : ¬ (k : Int) < (n : Int) := by omega
      clear hke
      go_wp2_with fail
      go_ret
      exact ⟨rfl, hD.out⟩

end Go.Proofs.Ytfhmhkbjcccejaa

namespace Go.Proofs.Ytfhmhkbjcccejaa
open Go.RowKit

theorem infoNum : (Try.prog.info? 23).map (fun i => (i.zero, i.size, i.bytes)) = some (some (.agg #[.int .i64 0, .int .i64 0]), 2, 16) := by kernel_rfl

/-- The cells of a list. -/
def cellsL (n : Nat) (t l : Nat → Int) : List Value := (List.range (n * 2)).map fun j => if j % 2 = 0 then .int .i64 (t (j / 2)) else .int .i64 (l (j / 2))

theorem cellsL_len (n : Nat) (t l : Nat → Int) : (cellsL n t l).length = n * 2 := by simp [cellsL]
theorem cellsL_get {n : Nat} {t l : Nat → Int} {j : Nat} {u : Value} (h : (cellsL n t l)[j]? = some u) : j < n * 2 ∧ u = if j % 2 = 0 then .int .i64 (t (j / 2)) else .int .i64 (l (j / 2)) := by
  unfold cellsL at h
  rw [List.getElem?_map] at h
  rcases Nat.lt_or_ge j (n * 2) with g | g
  · rw [List.getElem?_range g] at h
    exact ⟨g, (Option.some.inj h).symm⟩
  · rw [List.getElem?_eq_none (by simpa using g)] at h
    cases h
theorem cellsL_one (n : Nat) (t l : Nat → Int) : ∀ u ∈ cellsL n t l, u.oneCell' = true := by
  intro u hu
  unfold cellsL at hu
  obtain ⟨j, -, rfl⟩ := List.mem_map.1 hu
  split <;> rfl

/-- The copy. -/
def Copied (W : World) (g n : Nat) (t l : Nat → Int) (v : Value) (W' : World) : Prop := ∃ A' c', v = .slice A' n c' ∧ Lnum W' A' n t l ∧ W.grownBy W' (some g)

theorem run_copy (W : World) (g ty : Nat) (A : Option Addr) (n ca : Nat) (t l : Nat → Int) (hg : W.heap[g]? = some (.cells #[] 23 (0, 0))) (hA : Lnum W A n t l) (hn : n ≤ 200) :
    ∃ v W', (Builtin.append_ #[42, 42] ty #[.slice (some ⟨g, 0, none⟩) 0 0, .slice A n ca]).run Try.prog W = .ok v W' ∧ Copied W g n t l v W' := by
  have hgl : g < W.heap.size := lt_of_heap hg
  obtain ⟨i, hi, hz, hs, hb⟩ : ∃ i, Try.prog.info? 23 = some i ∧ i.zero = some (.agg #[.int .i64 0, .int .i64 0]) ∧ i.size = 2 ∧ i.bytes = 16 := by
    have h := infoNum
    cases hi : Try.prog.info? 23 with
    | none => rw [hi] at h; cases h
    | some i =>
      rw [hi] at h
      simp only [Option.map_some, Option.some.injEq, Prod.mk.injEq] at h
      exact ⟨i, rfl, h.1, h.2.1, h.2.2⟩
  have hown : W.ownsRow 0 23 2 (.slice (some ⟨g, 0, none⟩) 0 0) 0 [] := ⟨rfl, Or.inr ⟨g, 0, #[], rfl, Nat.zero_le _, hg, Nat.le_refl _, Nat.zero_le _, rfl, rfl⟩⟩
  rcases Nat.eq_zero_or_pos n with h0 | h0
  · subst h0
    refine ⟨.slice (some ⟨g, 0, none⟩) 0 0, W, ?_, _, _, rfl, fun h => absurd h (by omega), World.grownBy.refl W _⟩
    cases A with
    | none => simp [Builtin.append_, run_underlying Try.underlying42, sizeOf, typeInfo, hi, Builtin.lenOf, run_firstCells_none, storeCells]
    | some a =>
      have h0' : (loadCells a 0).run Try.prog W = .ok #[] W := run_loadCells_list W a [] (fun j v h => by simp at h)
      simp [Builtin.append_, run_underlying Try.underlying42, sizeOf, typeInfo, hi, Builtin.lenOf, Builtin.firstCells, storeCells, h0']
  · obtain ⟨b, off, rfl, hbl, hc⟩ := hA h0
    obtain ⟨g', cap, W', h1, h2, h3, h4, h5⟩ := run_append_lies (P := Try.prog) W 42 ty 0 23 i _ 2 16 Try.underlying42 hi hz hs hb rfl (by omega) _ 0 [] hown ⟨b, off, none⟩ n ca (cellsL n t l) (cellsL_len n t l)
      (fun j u hu => by
        obtain ⟨hj, e⟩ := cellsL_get hu
        have hadd : (⟨b, off, none⟩ : Addr).add j = ⟨b, off + j, none⟩ := by unfold Addr.add; split <;> simp_all
        rw [hadd, e]
        have hh := hc (j / 2) (by omega)
        by_cases p : j % 2 = 0
        · rw [if_pos p, show off + j = off + j / 2 * 2 from by omega]
          exact hh.1
        · rw [if_neg p, show off + j = off + j / 2 * 2 + 1 from by omega]
          exact hh.2)
      (cellsL_one n t l) h0 (by unfold maxLen; omega) (by omega) (Nat.zero_le _) _ rfl
    rw [Nat.zero_add, List.nil_append] at h2
    rw [Nat.zero_add] at h1
    refine ⟨_, W', h1, _, _, rfl, fun _ => ⟨g', 0, rfl, h5, fun k hk => ?_⟩, h3⟩
    have e1 := h2.cellAt (k * 2) (by omega)
    have e2 := h2.cellAt (k * 2 + 1) (by omega)
    rw [Nat.zero_add]
    have q1 : (cellsL n t l)[k * 2]? = some (.int .i64 (t k)) := by
      unfold cellsL
      rw [List.getElem?_map, List.getElem?_range (by omega)]
      simp
    have q2 : (cellsL n t l)[k * 2 + 1]? = some (.int .i64 (l k)) := by
      unfold cellsL
      rw [List.getElem?_map, List.getElem?_range (by omega)]
      have : (k * 2 + 1) / 2 = k := by omega
      have h2 : (k * 2 + 1) % 2 = 1 := by omega
      simp [this, h2]
    rw [q1] at e1
    rw [q2] at e2
    exact ⟨e1, e2⟩

theorem wpList_copy {ops : Array Oper} {rest : List Oper} {o : Oper} {a : Act} {Q : Exit → Act → World → Prop} {W : World} (hgd : o.guard = none) (s x : Operand)
    (ho : o.op = .call { callee := .builtin .append, args := #[s, x], argTypes := #[42, 42] })
    (g : Nat) (A : Option Addr) (n ca : Nat) (t l : Nat → Int) (hs : a.eval s = .slice (some ⟨g, 0, none⟩) 0 0) (hx : a.eval x = .slice A n ca)
    (hg : W.heap[g]? = some (.cells #[] 23 (0, 0))) (hA : Lnum W A n t l) (hn : n ≤ 200)
    (h : ∀ v W', Copied W g n t l v W' → wpList Try.prog ops Q rest (a.put o.dst v) W') : wpList Try.prog ops Q (o :: rest) a W :=
  wpList_plain hgd fun K hK => by
    obtain ⟨v, W', hr, hc⟩ := run_copy W g o.type A n ca t l hg hA hn
    unfold Oper.wp execOp
    simp only [ho, resolve, invoke, builtin, Sem.run_bind, Sem.run_pure, Result.andThen_ok, List.map_toArray, List.map_cons, List.map_nil, hs, hx, hr]
    exact hK _ _ (h v W' hc)

theorem grown_below {W W' : World} {g b : Nat} (h : W.grownBy W' (some g)) (hb : b ≤ g) (hW : b ≤ W.heap.size) : Below b W W' :=
  ⟨h.os, h.tape, h.output, h.size, fun k hk => h.block k (by omega) (fun e => by injection e with e; omega)⟩

end Go.Proofs.Ytfhmhkbjcccejaa

namespace Go.Proofs.Ytfhmhkbjcccejaa
open Go.RowKit

set_option maxRecDepth 100000 in
set_option maxHeartbeats 20000000 in
theorem lawDot_main (A B : Option Addr) (n m ca cb : Nat) (t l t' l' : Nat → Int) (w : World) (hn : n ≤ 200) (hm : m ≤ 200) (hnm : n + m ≤ 40) (hA : Lnum w A n t l) (hB : Lnum w B m t' l') (p q r : Int)
    (HR : Hid (∀ wx, Below w.heap.size w wx → Calls Try.prog 21 #[.slice A n ca, .slice B m cb] wx fun e w' => e = .returned (.tuple #[.agg #[.int .i64 p, .int .i64 q], .int .i64 r]) ∧ Below wx.heap.size wx w'))
    (HP : Hid (∀ wx, Below w.heap.size w wx → Calls Try.prog 22 #[.slice A n ca, .slice B m cb] wx fun e w' => e = .returned (.tuple #[.agg #[.int .i64 p, .int .i64 q], .int .i64 r]) ∧ Below wx.heap.size wx w')) :
    Calls Try.prog 7 #[.slice A n ca, .slice B m cb] w fun e w' => e = .returned (.bool true) ∧ Below w.heap.size w w' := by
  have h1 : decide ((200 : Int) < (n : Int)) = false := by simp; omega
  have h2 : decide ((200 : Int) < (m : Int)) = false := by simp; omega
  have h3 : decide ((40 : Int) < (n : Int) + (m : Int)) = false := by simp; omega
  go_enter Try.func7, Try.ntmps7
  go_wp2_with fail
  (with_reducible refine (HR.out _ (Below.refl _ _)).mono ?_)
  rintro e w1 ⟨rfl, hB1⟩
  have B1 := Lib.hid hB1
  clear hB1
  go_upto_region 4 with fail
  generalize hX : w1.alloc _ = X
  have hwX : Below w.heap.size w X := by rw [← hX]; exact B1.out.alloc B1.out.size _
  have hb5 : B2 w1.heap.size (.int .i64 p) (.int .i64 q) X := by rw [← hX]; exact B2.new _ _ _ _
  have hl5 : w1.heap.size < X.heap.size := by rw [← hX]; simp
  have hg5 : w.heap.size ≤ w1.heap.size := B1.out.size
  clear hX
  have HA1 := Lib.hid (hA.keep hwX)
  have HB1 := Lib.hid (hB.keep hwX)
  have HA := Lib.hid hA
  have HB := Lib.hid hB
  clear hA hB
  go_wp2_with (first
    | (at_builtin; refine wpList_copy rfl (.tmp 43) (.tmp 44) rfl X.heap.size A n ca t l rfl rfl (heap_alloc_new X _) (HA1.out.keep (below_alloc _ _)) hn ?_; intro v1 W1 hc1; obtain ⟨A1, c1, rfl, hL1, hg1⟩ := hc1; (have hXW : Below X.heap.size X W1 := (below_alloc X (.cells #[] 23)).trans (grown_below hg1 (Nat.le_refl _) (by simp))))
    | (at_builtin; refine wpList_copy rfl (.tmp 46) (.tmp 47) rfl W1.heap.size B m cb t' l' rfl rfl (heap_alloc_new W1 _) (HB1.out.keep (hXW.trans ((below_alloc W1 _).mono hXW.size))) hm ?_; intro v2 W2 hc2; obtain ⟨A2, c2, rfl, hL2, hg2⟩ := hc2; (have hWW : Below W1.heap.size W1 W2 := (below_alloc W1 (.cells #[] 23)).trans (grown_below hg2 (Nat.le_refl _) (by simp)))))
  have hXW2 : Below X.heap.size X W2 := hXW.trans (hWW.mono hXW.size)
  have hwW2 : Below w.heap.size w W2 := hwX.trans (hXW2.mono hwX.size)
  (with_reducible refine (HP.out W2 hwW2).mono ?_)
  rintro e w3 ⟨rfl, hB3⟩
  have hXw3 : Below X.heap.size X w3 := hXW2.trans (hB3.mono hXW2.size)
  have hww3 : Below w.heap.size w w3 := hwX.trans (hXw3.mono hwX.size)
  have hb5' := hb5.keep hl5 hXw3
  have hl5' : w1.heap.size < w3.heap.size := Nat.lt_of_lt_of_le hl5 hXw3.size
  have hL1' := (hL1.keep hWW).keep hB3
  have hL2' := hL2.keep hB3
  clear hb5 hl5 hL1 hL2 hXW hWW hXW2 hwW2 hB3 hXw3 hwX hg1 hg2 HR HP HA1 HB1 B1
  go_upto_region 6 with fail
  generalize hY : w3.alloc _ = Y
  have hY3 : Below w3.heap.size w3 Y := by rw [← hY]; exact below_alloc _ _
  have hb9 : B2 w3.heap.size (.int .i64 p) (.int .i64 q) Y := by rw [← hY]; exact B2.new _ _ _ _
  obtain ⟨k0, k1⟩ := hb5'.keep hl5' hY3
  obtain ⟨j0, j1⟩ := hb9
  have HYw := Lib.hid (hww3.trans (hY3.mono hww3.size))
  have HL1 := Lib.hid (hL1'.keep hY3)
  have HL2 := Lib.hid (hL2'.keep hY3)
  have HA2 := Lib.hid (HA.out.keep HYw.out)
  have HB2 := Lib.hid (HB.out.keep HYw.out)
  clear hY hY3 hb5' hl5' hL1' hL2' hww3 HA HB
  go_wp2_with fail
  (with_reducible refine (same_any A A1 n ca c1 t l Y (by omega) HA2.out HL1.out).mono ?_)
  rintro e w4 ⟨rfl, hD4⟩
  have HL2' := Lib.hid (HL2.out.keep (hD4.below _))
  have HB2' := Lib.hid (HB2.out.keep (hD4.below _))
  have HYw4 := Lib.hid (HYw.out.trans (hD4.below _))
  clear hD4 k0 k1 j0 j1
  go_wp2_with fail
  (with_reducible refine (same_any B A2 m cb c2 t' l' w4 (by omega) HB2'.out HL2'.out).mono ?_)
  rintro e w5 ⟨rfl, hD5⟩
  have HYw5 := Lib.hid (HYw4.out.trans (hD5.below _))
  clear hD5
  go_wp2_with fail
  (with_reducible refine (awake_any w5).mono ?_)
  rintro e w6 ⟨rfl, hB6⟩
  have HYw6 := Lib.hid (HYw5.out.trans (hB6.mono HYw5.out.size))
  clear hB6
  go_wp2_with fail
  go_ret
  exact ⟨rfl, HYw6.out⟩

set_option maxRecDepth 100000 in
set_option maxHeartbeats 20000000 in
theorem lawDot_light (A B : Option Addr) (n m ca cb : Nat) (t l t' l' : Nat → Int) (w : World) (hn : n ≤ 200) (hm : m ≤ 200) (hnm : 40 < n + m) (hA : Lnum w A n t l) (hB : Lnum w B m t' l') (p q r : Int)
    (HL1 : Hid (∀ wx, Below w.heap.size w wx → Calls Try.prog 20 #[.slice A n ca] wx fun e w' => e = .returned (.bool true) ∧ Below wx.heap.size wx w'))
    (HL2 : Hid (∀ wx, Below w.heap.size w wx → Calls Try.prog 20 #[.slice B m cb] wx fun e w' => e = .returned (.bool true) ∧ Below wx.heap.size wx w'))
    (HR : Hid (∀ wx, Below w.heap.size w wx → Calls Try.prog 21 #[.slice A n ca, .slice B m cb] wx fun e w' => e = .returned (.tuple #[.agg #[.int .i64 p, .int .i64 q], .int .i64 r]) ∧ Below wx.heap.size wx w'))
    (HP : Hid (∀ wx, Below w.heap.size w wx → Calls Try.prog 22 #[.slice A n ca, .slice B m cb] wx fun e w' => e = .returned (.tuple #[.agg #[.int .i64 p, .int .i64 q], .int .i64 r]) ∧ Below wx.heap.size wx w')) :
    Calls Try.prog 7 #[.slice A n ca, .slice B m cb] w fun e w' => e = .returned (.bool true) ∧ Below w.heap.size w w' := by
  have h1 : decide ((200 : Int) < (n : Int)) = false := by simp; omega
  have h2 : decide ((200 : Int) < (m : Int)) = false := by simp; omega
  have h3 : decide ((40 : Int) < (n : Int) + (m : Int)) = true := by simp; omega
  go_enter Try.func7, Try.ntmps7
  go_wp2_with fail
  (with_reducible refine (HL1.out _ (Below.refl _ _)).mono ?_)
  rintro e wa ⟨rfl, hBa⟩
  go_wp2_with fail
  (with_reducible refine (HL2.out _ hBa).mono ?_)
  rintro e wb ⟨rfl, hBb⟩
  have Bb := Lib.hid (hBa.trans (hBb.mono hBa.size))
  clear hBa hBb HL1 HL2
  go_wp2_with fail
  (with_reducible refine (HR.out _ Bb.out).mono ?_)
  rintro e w1 ⟨rfl, hB1⟩
  have B1 := Lib.hid (Bb.out.trans (hB1.mono Bb.out.size))
  clear hB1 Bb
  go_upto_region 4 with fail
  generalize hX : w1.alloc _ = X
  have hwX : Below w.heap.size w X := by rw [← hX]; exact B1.out.alloc B1.out.size _
  have hb5 : B2 w1.heap.size (.int .i64 p) (.int .i64 q) X := by rw [← hX]; exact B2.new _ _ _ _
  have hl5 : w1.heap.size < X.heap.size := by rw [← hX]; simp
  have hg5 : w.heap.size ≤ w1.heap.size := B1.out.size
  clear hX
  have HA1 := Lib.hid (hA.keep hwX)
  have HB1 := Lib.hid (hB.keep hwX)
  have HA := Lib.hid hA
  have HB := Lib.hid hB
  clear hA hB
  go_wp2_with (first
    | (at_builtin; refine wpList_copy rfl (.tmp 43) (.tmp 44) rfl X.heap.size A n ca t l rfl rfl (heap_alloc_new X _) (HA1.out.keep (below_alloc _ _)) hn ?_; intro v1 W1 hc1; obtain ⟨A1, c1, rfl, hL1, hg1⟩ := hc1; (have hXW : Below X.heap.size X W1 := (below_alloc X (.cells #[] 23)).trans (grown_below hg1 (Nat.le_refl _) (by simp))))
    | (at_builtin; refine wpList_copy rfl (.tmp 46) (.tmp 47) rfl W1.heap.size B m cb t' l' rfl rfl (heap_alloc_new W1 _) (HB1.out.keep (hXW.trans ((below_alloc W1 _).mono hXW.size))) hm ?_; intro v2 W2 hc2; obtain ⟨A2, c2, rfl, hL2, hg2⟩ := hc2; (have hWW : Below W1.heap.size W1 W2 := (below_alloc W1 (.cells #[] 23)).trans (grown_below hg2 (Nat.le_refl _) (by simp)))))
  have hXW2 : Below X.heap.size X W2 := hXW.trans (hWW.mono hXW.size)
  have hwW2 : Below w.heap.size w W2 := hwX.trans (hXW2.mono hwX.size)
  (with_reducible refine (HP.out W2 hwW2).mono ?_)
  rintro e w3 ⟨rfl, hB3⟩
  have hXw3 : Below X.heap.size X w3 := hXW2.trans (hB3.mono hXW2.size)
  have hww3 : Below w.heap.size w w3 := hwX.trans (hXw3.mono hwX.size)
  have hb5' := hb5.keep hl5 hXw3
  have hl5' : w1.heap.size < w3.heap.size := Nat.lt_of_lt_of_le hl5 hXw3.size
  have hL1' := (hL1.keep hWW).keep hB3
  have hL2' := hL2.keep hB3
  clear hb5 hl5 hL1 hL2 hXW hWW hXW2 hwW2 hB3 hXw3 hwX hg1 hg2 HR HP HA1 HB1 B1
  go_upto_region 6 with fail
  generalize hY : w3.alloc _ = Y
  have hY3 : Below w3.heap.size w3 Y := by rw [← hY]; exact below_alloc _ _
  have hb9 : B2 w3.heap.size (.int .i64 p) (.int .i64 q) Y := by rw [← hY]; exact B2.new _ _ _ _
  obtain ⟨k0, k1⟩ := hb5'.keep hl5' hY3
  obtain ⟨j0, j1⟩ := hb9
  have HYw := Lib.hid (hww3.trans (hY3.mono hww3.size))
  have HL1 := Lib.hid (hL1'.keep hY3)
  have HL2 := Lib.hid (hL2'.keep hY3)
  have HA2 := Lib.hid (HA.out.keep HYw.out)
  have HB2 := Lib.hid (HB.out.keep HYw.out)
  clear hY hY3 hb5' hl5' hL1' hL2' hww3 HA HB
  go_wp2_with fail
  (with_reducible refine (same_any A A1 n ca c1 t l Y (by omega) HA2.out HL1.out).mono ?_)
  rintro e w4 ⟨rfl, hD4⟩
  have HL2' := Lib.hid (HL2.out.keep (hD4.below _))
  have HB2' := Lib.hid (HB2.out.keep (hD4.below _))
  have HYw4 := Lib.hid (HYw.out.trans (hD4.below _))
  clear hD4 k0 k1 j0 j1
  go_wp2_with fail
  (with_reducible refine (same_any B A2 m cb c2 t' l' w4 (by omega) HB2'.out HL2'.out).mono ?_)
  rintro e w5 ⟨rfl, hD5⟩
  have HYw5 := Lib.hid (HYw4.out.trans (hD5.below _))
  clear hD5
  go_wp2_with fail
  (with_reducible refine (awake_any w5).mono ?_)
  rintro e w6 ⟨rfl, hB6⟩
  have HYw6 := Lib.hid (HYw5.out.trans (hB6.mono HYw5.out.size))
  clear hB6
  go_wp2_with fail
  go_ret
  exact ⟨rfl, HYw6.out⟩

set_option maxRecDepth 100000 in
set_option maxHeartbeats 20000000 in
theorem lawDot_big1 (A B : Option Addr) (n m ca cb : Nat) (w : World) (hnb : n ≤ 9223372036854775807) (_hmb : m ≤ 9223372036854775807) (hn : 200 < n) :
    Calls Try.prog 7 #[.slice A n ca, .slice B m cb] w fun e w' => e = .returned (.bool true) ∧ Below w.heap.size w w' := by
  have h1 : decide ((200 : Int) < (n : Int)) = true := by simp; omega
  go_enter Try.func7, Try.ntmps7
  go_wp2_with fail
  (with_reducible refine (awake_any _).mono ?_)
  rintro e vz ⟨rfl, hBz⟩
  have CZ := Lib.hid (hBz)
  clear hBz
  go_wp2_with fail
  go_ret
  exact ⟨rfl, CZ.out⟩

set_option maxRecDepth 100000 in
set_option maxHeartbeats 20000000 in
theorem lawDot_big2 (A B : Option Addr) (n m ca cb : Nat) (w : World) (hnb : n ≤ 9223372036854775807) (hmb : m ≤ 9223372036854775807) (hn : n ≤ 200) (hm : 200 < m) :
    Calls Try.prog 7 #[.slice A n ca, .slice B m cb] w fun e w' => e = .returned (.bool true) ∧ Below w.heap.size w w' := by
  have h1 : decide ((200 : Int) < (n : Int)) = false := by simp; omega
  have h2 : decide ((200 : Int) < (m : Int)) = true := by simp; omega
  go_enter Try.func7, Try.ntmps7
  go_wp2_with fail
  (with_reducible refine (awake_any _).mono ?_)
  rintro e vz ⟨rfl, hBz⟩
  have CZ := Lib.hid (hBz)
  clear hBz
  go_wp2_with fail
  go_ret
  exact ⟨rfl, CZ.out⟩

set_option maxRecDepth 100000 in
set_option maxHeartbeats 20000000 in
theorem lawDot_dark1 (A B : Option Addr) (n m ca cb : Nat) (w : World) (hn : n ≤ 200) (hm : m ≤ 200) (hnm : 40 < n + m)
    (HL1 : Hid (∀ wx, Below w.heap.size w wx → Calls Try.prog 20 #[.slice A n ca] wx fun e w' => e = .returned (.bool false) ∧ Below wx.heap.size wx w')) :
    Calls Try.prog 7 #[.slice A n ca, .slice B m cb] w fun e w' => e = .returned (.bool true) ∧ Below w.heap.size w w' := by
  have h1 : decide ((200 : Int) < (n : Int)) = false := by simp; omega
  have h2 : decide ((200 : Int) < (m : Int)) = false := by simp; omega
  have h3 : decide ((40 : Int) < (n : Int) + (m : Int)) = true := by simp; omega
  go_enter Try.func7, Try.ntmps7
  go_wp2_with fail
  (with_reducible refine (HL1.out _ (Below.refl _ _)).mono ?_)
  rintro e v0 ⟨rfl, hB0⟩
  have C0 := Lib.hid (hB0)
  clear hB0
  go_wp2_with fail
  (with_reducible refine (awake_any _).mono ?_)
  rintro e vz ⟨rfl, hBz⟩
  have CZ := Lib.hid (C0.out.trans (hBz.mono C0.out.size))
  clear hBz
  go_wp2_with fail
  go_ret
  exact ⟨rfl, CZ.out⟩

set_option maxRecDepth 100000 in
set_option maxHeartbeats 20000000 in
theorem lawDot_dark2 (A B : Option Addr) (n m ca cb : Nat) (w : World) (hn : n ≤ 200) (hm : m ≤ 200) (hnm : 40 < n + m)
    (HL1 : Hid (∀ wx, Below w.heap.size w wx → Calls Try.prog 20 #[.slice A n ca] wx fun e w' => e = .returned (.bool true) ∧ Below wx.heap.size wx w'))
    (HL2 : Hid (∀ wx, Below w.heap.size w wx → Calls Try.prog 20 #[.slice B m cb] wx fun e w' => e = .returned (.bool false) ∧ Below wx.heap.size wx w')) :
    Calls Try.prog 7 #[.slice A n ca, .slice B m cb] w fun e w' => e = .returned (.bool true) ∧ Below w.heap.size w w' := by
  have h1 : decide ((200 : Int) < (n : Int)) = false := by simp; omega
  have h2 : decide ((200 : Int) < (m : Int)) = false := by simp; omega
  have h3 : decide ((40 : Int) < (n : Int) + (m : Int)) = true := by simp; omega
  go_enter Try.func7, Try.ntmps7
  go_wp2_with fail
  (with_reducible refine (HL1.out _ (Below.refl _ _)).mono ?_)
  rintro e v0 ⟨rfl, hB0⟩
  have C0 := Lib.hid (hB0)
  clear hB0
  go_wp2_with fail
  (with_reducible refine (HL2.out _ C0.out).mono ?_)
  rintro e v1 ⟨rfl, hB1⟩
  have C1 := Lib.hid (C0.out.trans (hB1.mono C0.out.size))
  clear hB1
  go_wp2_with fail
  (with_reducible refine (awake_any _).mono ?_)
  rintro e vz ⟨rfl, hBz⟩
  have CZ := Lib.hid (C1.out.trans (hBz.mono C1.out.size))
  clear hBz
  go_wp2_with fail
  go_ret
  exact ⟨rfl, CZ.out⟩

/-- The law, for all lists. -/
theorem lawDot_any (A B : Option Addr) (n m ca cb : Nat) (t l t' l' : Nat → Int) (w : World) (hnb : n ≤ 9223372036854775807) (hmb : m ≤ 9223372036854775807) (hca : n ≤ ca) (hcb : m ≤ cb) (hA : Lnum w A n t l) (hB : Lnum w B m t' l') :
    Calls Try.prog 7 #[.slice A n ca, .slice B m cb] w fun e w' => e = .returned (.bool true) ∧ Below w.heap.size w w' := by
  by_cases hn : 200 < n
  · exact lawDot_big1 A B n m ca cb w hnb hmb hn
  by_cases hm : 200 < m
  · exact lawDot_big2 A B n m ca cb w hnb hmb (by omega) hm
  have HR := Lib.hid fun wx (hx : Below w.heap.size w wx) => rdot_any A B n m ca cb t l t' l' wx (by omega) (by omega) (hA.keep hx) (hB.keep hx)
  have HP := Lib.hid fun wx (hx : Below w.heap.size w wx) => ndot_any A B n m ca cb t l t' l' wx (by omega) (by omega) hca hcb (hA.keep hx) (hB.keep hx)
  by_cases hnm : n + m ≤ 40
  · exact lawDot_main A B n m ca cb t l t' l' w (by omega) (by omega) hnm hA hB _ _ _ HR HP
  have HL1 : Hid (∀ wx, Below w.heap.size w wx → Calls Try.prog 20 #[.slice A n ca] wx fun e w' => e = .returned (.bool (allB (fun i => decide (l i ≤ 4096)) n)) ∧ Below wx.heap.size wx w') := fun wx hx => light_any A n ca t l wx (by omega) (hA.keep hx)
  have HL2 : Hid (∀ wx, Below w.heap.size w wx → Calls Try.prog 20 #[.slice B m cb] wx fun e w' => e = .returned (.bool (allB (fun i => decide (l' i ≤ 4096)) m)) ∧ Below wx.heap.size wx w') := fun wx hx => light_any B m cb t' l' wx (by omega) (hB.keep hx)
  cases h1 : allB (fun i => decide (l i ≤ 4096)) n with
  | false =>
    rw [h1] at HL1
    exact lawDot_dark1 A B n m ca cb w (by omega) (by omega) (by omega) HL1
  | true =>
    rw [h1] at HL1
    cases h2 : allB (fun i => decide (l' i ≤ 4096)) m with
    | false =>
      rw [h2] at HL2
      exact lawDot_dark2 A B n m ca cb w (by omega) (by omega) (by omega) HL1 HL2
    | true =>
      rw [h2] at HL2
      exact lawDot_light A B n m ca cb t l t' l' w (by omega) (by omega) (by omega) hA hB _ _ _ HL1 HL2 HR HP

end Go.Proofs.Ytfhmhkbjcccejaa
