/- The reference's Long: the number of a string of digits. The decimal numeral of an integer, by the reference's Digits. -/
import Derived.Test.YtfhmhkbjcccejaaGreatDoorZ11
import Derived.Test.YtfhmhkbjcccejaaGreatDoorZ30
import Derived.Test.YtfhmhkbjcccejaaGreatDoorZ32
import Derived.Test.YtfhmhkbjcccejaaGreatDoorZ25
import Derived.Test.YtfhmhkbjcccejaaGreatDoorZ00
import Derived.Test.YtfhmhkbjcccejaaGreatDoorZ01
import Derived.Laws.IdiomStrings
import Derived.Laws.Concat
import Derived.Lib.Strings
import Derived.Deep.RegionHeld3
import Derived.Test.YtfhmhkbjcccejaaGreatDoorZ08

namespace Go.Proofs.YtfhmhkbjcccejaaGreatDoor
open Go.RowKit

/-- What Long answers. -/
def RetLg (l : List UInt8) (w : World) (e : Ending) (w' : World) : Prop :=
  ∃ s neg A n c z, e = .returned (.tuple #[.agg #[.int .i64 s, .bool neg, .slice A n c], .bool (isDec l)]) ∧ IV w' (.agg #[.int .i64 s, .bool neg, .slice A n c]) z ∧ (isDec l = true → z = (decV 0 l : Nat)) ∧ Below w.heap.size w w'

theorem heap_set3 {g k : Nat} (w : World) (hk : g ≠ k) (a b c : Value) : (set3 w k a b c).heap[g]? = w.heap[g]? :=
  ((Below.heap_setCell _ _ _ _ hk).trans (Below.heap_setCell _ _ _ _ hk)).trans (Below.heap_setCell _ _ _ _ hk)

theorem W_lt_Bs' {a b : Nat} (h : 32 * a < 30 * b) : W ^ a < Bs ^ b := by
  rw [show W = 2 ^ 32 from rfl, show Bs = 2 ^ 30 from rfl, ← Nat.pow_mul, ← Nat.pow_mul]
  exact Nat.pow_lt_pow_right (by decide) h

/-- Behind a round. -/
def EndL (w : World) (g : Nat) (z : Int) (wx : World) : Prop := BI wx g z ∧ W3 g wx ∧ W3 w.heap.size wx ∧ Below w.heap.size w wx
theorem longEnd {w wr wx : World} {g : Nat} {z : Int} {s : Int} {neg : Bool} {A : Option Addr} {n c : Nat} (hg : w.heap.size < g) (hb : Below w.heap.size w wr) (hx : Below wr.heap.size wr wx) (hW : W3 g wx) (hr : W3 w.heap.size wx) (h : RI wx s neg A n c z) :
    EndL w g z (set3 wx g (.int .i64 s) (.bool neg) (.slice A n c)) :=
  ⟨⟨s, neg, A, n, c, (hW.set _ _ _).1, h.set_3 hW _ _ _⟩, (hW.set _ _ _).2, hr.set_3 (by omega) _ _ _, set3_below (hb.trans (hx.mono hb.size)) (by omega) _ _ _⟩

/-- The state of the loop. -/
def LongL (w : World) (g : Nat) (N : Nat) (l : List UInt8) (i : Value) (wr : World) : Prop :=
  ∃ k : Nat, Hid (k ≤ N) ∧ i = .int .i64 (k : Int) ∧ Hid ((l.take k).all isDg = true) ∧ Hid (BI wr g (decV 0 (l.take k) : Nat)) ∧ Hid (W3 g wr) ∧ Hid (W3 w.heap.size wr) ∧ Hid (Below w.heap.size w wr)

set_option maxRecDepth 100000 in
set_option maxHeartbeats 20000000 in
theorem rlong_any (s : ByteArray) (w : World) (hs : s.size ≤ 400) : Calls Tryz.prog 23 #[.string s] w (RetLg s.data.toList w) := by
  have HZ : Hid (∀ wx, Calls Tryz.prog 36 #[.int .i64 0] wx (RetV (.int 0) wx)) := fun wx => iv_of 0 wx (by omega) (by omega)
  obtain ⟨l, hl⟩ : ∃ l, s.data.toList = l := ⟨_, rfl⟩
  have hN : s.size = l.length := by rw [Lib.size_eq, hl]
  have HGET : Hid (∀ k (h : k < s.size), l[k]? = some (s[k]'h)) := fun k h => by rw [← hl]; exact getD_list s h
  have HN := Lib.hid hN
  clear hN
  have hemp : s.toList = l := by rw [ByteArray.toList_eq, hl]
  rw [hl]
  go_enter Tryz.func23, Tryz.ntmps23
  go_upto_region 1 with fail
  generalize hX : w.alloc _ = X
  have hwX : Below w.heap.size w X := by rw [← hX]; exact below_alloc _ _
  have hWX : W3 w.heap.size X := by rw [← hX]; exact W3.new _ _ _ _ rfl
  clear hX
  have HWX := Lib.hid hWX
  have HwX := Lib.hid hwX
  clear hWX hwX
  go_wp2_with fail
  (with_reducible refine (HZ.out X).mono ?_)
  rintro e w3 ⟨u0, rfl, ⟨s0, neg0, A0, n0, c0, rfl, hr1⟩, hB3⟩
  have W3' := Lib.hid (HWX.out.keep hB3)
  have B3' := Lib.hid (HwX.out.trans (hB3.mono HwX.out.size))
  clear hB3 HZ HWX HwX
  go_wp2_with fail
  generalize hY : w3.alloc _ = Y
  have hBY : Below w3.heap.size w3 Y := by rw [← hY]; exact below_alloc _ _
  have S0 : BI Y w3.heap.size (decV 0 (l.take 0) : Nat) := by
    refine ⟨s0, neg0, A0, n0, c0, ?_, hr1.keep hBY⟩
    rw [← hY]
    exact B3.new _ _ _ _
  have S1 : W3 w3.heap.size Y := by rw [← hY]; exact W3.new w3 _ _ _ rfl
  have HS0 := Lib.hid S0
  have HS1 := Lib.hid S1
  have HS2 := Lib.hid (W3'.out.keep hBY)
  have HS3 := Lib.hid (B3'.out.trans (hBY.mono B3'.out.size))
  have hlg : w.heap.size < w3.heap.size := W3'.out.bx.lt
  clear hY hBY S0 S1 hr1 W3' B3'
  generalize hg0 : w3.heap.size = g0 at *
  clear hg0
  go_loopw [5] (fun i wr => LongL w g0 s.size l i wr) (fun i _ => s.size - (intOf i).toNat)
  case atStart => exact ⟨0, Nat.zero_le _, rfl, Lib.hid rfl, HS0, HS1, HS2, HS3⟩
  case round =>
    clear HS0 HS1 HS2 HS3
    obtain ⟨k, hk, rfl, hdg, hbi, hw3, hwr, hbel⟩ := hrel
    by_cases hlt : k < s.size
    · have hlt' : (k : Int) < (s.size : Int) := by omega
      have hget := HGET.out k hlt
      obtain ⟨c, hc⟩ : ∃ c, s[k]'hlt = c := ⟨_, rfl⟩
      rw [hc] at hget
      have hc8 : c.toNat < 256 := UInt8.toNat_lt c
      obtain ⟨s1, neg1, A1, n1, c1, ⟨k0, k1, k2, kl⟩, hR⟩ := hbi.out
      have HBX : Hid (B3 g0 (.int .i64 s1) (.bool neg1) (.slice A1 n1 c1) wr) := ⟨k0, k1, k2, kl⟩
      have HR := Lib.hid hR
      clear hR
      by_cases hd : isDg c = true
      · obtain ⟨d1, d2⟩ := isDg_le hd
        obtain ⟨d, hdd⟩ : ∃ d, c.toNat = 48 + d := ⟨c.toNat - 48, by omega⟩
        have hd9 : d ≤ 9 := by omega
        have hcx : (((s[k]'hlt).toNat : Nat) : Int) = 48 + (d : Int) := by rw [hc]; omega
        have hx : (48 + (d : Int)) - 48 = (d : Int) := by omega
        have e1 : decide (48 + (d : Int) < 48) = false := by simp; omega
        have e2 : decide ((57 : Int) < 48 + (d : Int)) = false := by simp; omega
        have hV := decV_snoc hget
        rw [show c.toNat - 48 = d from by omega] at hV
        have hDG : Hid ((l.take (k + 1)).all isDg = true) := by
          show _ = true
          rw [List.take_add_one, hget, List.all_append, hdg.out]
          simp [hd]
        obtain ⟨z1, hz1⟩ : ∃ z1 : Int, ((decV 0 (l.take k) * 10 + d : Nat) : Int) = z1 := ⟨_, rfl⟩
        have HV := Lib.hid hV
        have hbd := decV_take_lt hDG.out k
        rw [List.take_take, Nat.min_eq_left (Nat.le_succ k)] at hbd
        have hkN : k ≤ 400 := by omega
        have hb0 : (decV 0 (l.take k)) < Bs ^ 1000 := Nat.lt_trans hbd (@W_lt_Bs' (k + 1) 1000 (by omega))
        have hb1 : (decV 0 (l.take k)) * 10 < Bs ^ 1000 := by
          refine Nat.lt_of_lt_of_le (Nat.mul_lt_mul_of_lt_of_le hbd (show 10 ≤ W from by rw [W_eq]; decide) (by decide)) ?_
          rw [← Nat.pow_succ]
          exact Nat.le_of_lt (@W_lt_Bs' (k + 2) 1000 (by omega))
        have hb9 : ∀ x : Nat, x ≤ 10 → x < Bs ^ 1000 := fun x hx => Nat.lt_of_lt_of_le (Nat.lt_of_le_of_lt hx (show 10 < W ^ 1 by rw [W_eq]; decide)) (Nat.le_of_lt (@W_lt_Bs' 1 1000 (by omega)))
        have H10 : Hid (∀ wx, Calls Tryz.prog 36 #[.int .i64 10] wx (RetV (.int 10) wx)) := fun wx => iv_of 10 wx (by omega) (by omega)
        have HO : Hid (∀ wx, Calls Tryz.prog 36 #[.int .i64 (d : Int)] wx (RetV (.int (d : Int)) wx)) := fun wx => iv_of d wx (by omega) (by omega)
        have HT : Hid (∀ wx u u', IV wx u (decV 0 (l.take k) : Nat) → IV wx u' 10 → Calls Tryz.prog 58 #[u, u'] wx (RetV (.int ((decV 0 (l.take k) : Nat) * 10)) wx)) := fun wx u u' h h' => iv_times 1000 h h' (by omega) (by rw [Int.natAbs_natCast]; exact hb0) (hb9 10 (by omega))
        have HP : Hid (∀ wx u u', IV wx u ((decV 0 (l.take k) : Nat) * 10) → IV wx u' (d : Int) → Calls Tryz.prog 59 #[u, u'] wx (RetV (.int z1) wx)) := fun wx u u' h h' => by
          rw [← hz1, show (((decV 0 (l.take k) * 10 + d : Nat)) : Int) = ((decV 0 (l.take k) : Nat) : Int) * 10 + (d : Int) from by omega]
          exact iv_plus 1000 h h' (by omega) (by rw [show (((decV 0 (l.take k) : Nat) : Int) * 10).natAbs = decV 0 (l.take k) * 10 from by omega]; exact hb1) (by rw [Int.natAbs_natCast]; exact hb9 d (by omega))
        have hw64 : IntKind.i64.wrap (d : Int) = (d : Int) := by rw [IntKind.wrap_i64]; omega
        have hw8 : IntKind.u8.wrap (d : Int) = (d : Int) := by rw [IntKind.wrap_u8]; omega
        have hdk : 0 ≤ (d : Int) := by omega
        have hdk9 : (d : Int) ≤ 9 := by omega
        clear hV hget hdd d1 d2 hd hc8 k0 k1 k2 hc hbi hbd hb0 hb1 hb9
        go_upto_region 7 with fail
        generalize hz0 : ((decV 0 (l.take k) : Nat) : Int) = z0 at *
        refine wp_region_flow_store 10 [24, 25, 26, 27, 28, 29, 30, 31, 32, 33] (fun i => 24 + i) (Below wr.heap.size wr) (EndL w g0 z1) (Spl [.int z0, .int 10, .int (z0 * 10), .val (.string s), .val (.int .i64 (k : Int)), .val (.int .u8 (48 + (d : Int))), .val (.int .u8 (d : Int)), .val (.int .i64 (d : Int)), .int (d : Int), .int z1]) (by kernel_rfl) (by kernel_rfl) (by kernel_rfl) (by kernel_rfl) (by kernel_rfl) (fun i j _ _ h => Nat.add_left_cancel (show 24 + i = 24 + j from h)) (by decide) (fun wx wy (h : Below wr.heap.size wr wx) hb => h.trans (hb.mono h.size)) Spl.keep ?_ ?_ ?_ ?_
        · exact Below.drew (Below.refl _ _)
        · intro i v wx o T' K hi ho hF hdep hin hout hK
          have q24 := hin 24 (by decide)
          have q25 := hin 25 (by decide)
          have q26 := hin 26 (by decide)
          have q27 := hin 27 (by decide)
          have q28 := hin 28 (by decide)
          have q29 := hin 29 (by decide)
          have q30 := hin 30 (by decide)
          have q31 := hin 31 (by decide)
          have q32 := hin 32 (by decide)
          have q33 := hin 33 (by decide)
          have sl0 : T'[0]? = some (.string s) := (hout 0 (by decide)).trans rfl
          have sl4 : T'[4]? = some (.pointer (some ⟨g0, 0, none⟩)) := (hout 4 (by decide)).trans rfl
          have sl5 : T'[5]? = some (.int .i64 (k : Int)) := (hout 5 (by decide)).trans rfl
          clear hin hout
          have HF := Lib.hid hF
          have HD := Lib.hid hdep
          clear hF hdep
          rcases (by omega : i = 0 ∨ i = 1 ∨ i = 2 ∨ i = 3 ∨ i = 4 ∨ i = 5 ∨ i = 6 ∨ i = 7 ∨ i = 8 ∨ i = 9) with rfl | rfl | rfl | rfl | rfl | rfl | rfl | rfl | rfl | rfl
          · obtain rfl := Option.some.inj ho
            obtain ⟨k0, k1, k2, -⟩ := HBX.out.keep HF.out
            have hP := (⟨s1, neg1, A1, n1, c1, rfl, HR.out.keep HF.out⟩ : IV wx (.agg #[.int .i64 s1, .bool neg1, .slice A1 n1 c1]) z0)
            clear q24 q25 q26 q27 q28 q29 q30 q31 q32 q33 sl0 sl5 ho hi
            go_simp
            exact hK _ _ (Below.refl _ _) hP
          · obtain rfl := Option.some.inj ho
            clear q24 q25 q26 q27 q28 q29 q30 q31 q32 q33 sl0 sl4 sl5 ho hi
            go_simp
            (with_reducible refine (H10.out _).mono ?_)
            rintro e w2 ⟨u, rfl, hu, hB⟩
            exact hK _ _ hB hu
          · obtain rfl := Option.some.inj ho
            have h0 : IV wx (v 24) z0 := HD.out ⟨0, .data⟩ (by simp) rfl
            have h1 : IV wx (v 25) 10 := HD.out ⟨1, .data⟩ (by simp) rfl
            clear q26 q27 q28 q29 q30 q31 q32 q33 sl0 sl4 sl5 ho hi
            go_simp
            (with_reducible refine (HT.out _ _ _ h0 h1).mono ?_)
            rintro e w2 ⟨u, rfl, hu, hB⟩
            exact hK _ _ hB hu
          · obtain rfl := Option.some.inj ho
            clear q24 q25 q26 q27 q28 q29 q30 q31 q32 q33 sl4 sl5 ho hi
            go_simp
            exact hK _ _ (Below.refl _ _) rfl
          · obtain rfl := Option.some.inj ho
            clear q24 q25 q26 q27 q28 q29 q30 q31 q32 q33 sl0 sl4 ho hi
            go_simp
            exact hK _ _ (Below.refl _ _) rfl
          · obtain rfl := Option.some.inj ho
            have e0 : v 27 = (.string s) := HD.out ⟨3, .data⟩ (by simp) rfl
            rw [e0] at q27
            have e1 : v 28 = (.int .i64 (k : Int)) := HD.out ⟨4, .data⟩ (by simp) rfl
            rw [e1] at q28
            clear q24 q25 q26 q29 q30 q31 q32 q33 sl0 sl4 sl5 ho hi
            go_simp
            exact hK _ _ (Below.refl _ _) rfl
          · obtain rfl := Option.some.inj ho
            have e0 : v 29 = (.int .u8 (48 + (d : Int))) := HD.out ⟨5, .data⟩ (by simp) rfl
            rw [e0] at q29
            clear q24 q25 q26 q27 q28 q30 q31 q32 q33 sl0 sl4 sl5 ho hi
            go_simp
            exact hK _ _ (Below.refl _ _) rfl
          · obtain rfl := Option.some.inj ho
            have e0 : v 30 = (.int .u8 (d : Int)) := HD.out ⟨6, .data⟩ (by simp) rfl
            rw [e0] at q30
            clear q24 q25 q26 q27 q28 q29 q31 q32 q33 sl0 sl4 sl5 ho hi
            go_simp
            exact hK _ _ (Below.refl _ _) rfl
          · obtain rfl := Option.some.inj ho
            have e0 : v 31 = (.int .i64 (d : Int)) := HD.out ⟨7, .data⟩ (by simp) rfl
            rw [e0] at q31
            clear q24 q25 q26 q27 q28 q29 q30 q32 q33 sl0 sl4 sl5 ho hi
            go_simp
            (with_reducible refine (HO.out _).mono ?_)
            rintro e w2 ⟨u, rfl, hu, hB⟩
            exact hK _ _ hB hu
          · obtain rfl := Option.some.inj ho
            have h0 : IV wx (v 26) (z0 * 10) := HD.out ⟨2, .data⟩ (by simp) rfl
            have h1 : IV wx (v 32) (d : Int) := HD.out ⟨8, .data⟩ (by simp) rfl
            clear q24 q25 q27 q28 q29 q30 q31 q33 sl0 sl4 sl5 ho hi
            go_simp
            (with_reducible refine (HP.out _ _ _ h0 h1).mono ?_)
            rintro e w2 ⟨u, rfl, hu, hB⟩
            exact hK _ _ hB hu
        · intro v wx o T' K ho hF hall hin hout hK
          obtain rfl := Option.some.inj ho
          have sl4 : T'[4]? = some (.pointer (some ⟨g0, 0, none⟩)) := (hout 4 (by decide)).trans rfl
          have q33 := hin 33 (by decide)
          have h0 : IV wx (v 33) z1 := hall 9 (by decide)
          clear hin hout hall ho
          obtain ⟨s5, n5, A5, m5, c5, e5, h5⟩ := h0
          rw [e5] at q33
          have HRR := Lib.hid (longEnd hlg hbel.out hF (hw3.out.keep hF) (hwr.out.keep hF) h5)
          obtain ⟨⟨o0, o1, o2, p0, p1, p2⟩, f0, f1, f2, -⟩ := hw3.out.keep hF
          clear e5 h5 hF
          go_simp
          exact hK _ HRR.out
        · intro v wx hE
          have HE := Lib.hid hE
          clear hE
          simp only [over, List.setIfInBounds_toArray, List.set_cons_zero, List.set_cons_succ]
          generalize v 24 = v24
          generalize v 25 = v25
          generalize v 26 = v26
          generalize v 27 = v27
          generalize v 28 = v28
          generalize v 29 = v29
          generalize v 30 = v30
          generalize v 31 = v31
          generalize v 32 = v32
          generalize v 33 = v33
          go_wp2_with fail
          exact ⟨⟨k + 1, Lib.hid (by omega), by rw [show ((k + 1 : Nat) : Int) = (k : Int) + 1 from by omega], hDG, Lib.hid (by show BI _ _ _; rw [HV.out, hz1]; exact HE.out.1), Lib.hid HE.out.2.1, Lib.hid HE.out.2.2.1, Lib.hid HE.out.2.2.2⟩, by simp [intOf]; omega⟩
      · have hd' : isDg c = false := by simpa using hd
        have HE := Lib.hid (isDec_false hget hd')
        have HIV := Lib.hid (show IV (set3 wr w.heap.size (.int .i64 s1) (.bool neg1) (.slice A1 n1 c1)) (.agg #[.int .i64 s1, .bool neg1, .slice A1 n1 c1]) _ from ⟨s1, neg1, A1, n1, c1, rfl, HR.out.set_3 hwr.out _ _ _⟩)
        have HBS := Lib.hid (set3_below hbel.out (Nat.le_refl _) (.int .i64 s1) (.bool neg1) (.slice A1 n1 c1))
        have hcx : (((s[k]'hlt).toNat : Nat) : Int) = ((c.toNat : Nat) : Int) := by rw [hc]
        obtain ⟨⟨p0, p1, p2, x0, x1, x2⟩, y0, y1, y2, -⟩ := hwr.out
        by_cases h48 : c.toNat < 48
        · have e1 : decide (((c.toNat : Nat) : Int) < 48) = true := by simp; omega
          clear hd hd' hget hbi hc h48
          go_wp2_with fail
          exact bodyPost_ret (v := .tuple #[.agg #[.int .i64 s1, .bool neg1, .slice A1 n1 c1], .bool false]) (by simp [results, Tryz.results23, go_sem, *]) rfl
            ⟨s1, neg1, A1, n1, c1, _, by rw [HE.out], HIV.out, fun h => (by rw [HE.out] at h; cases h), HBS.out⟩
        · have e1 : decide (((c.toNat : Nat) : Int) < 48) = false := by simp; omega
          have e2 : decide ((57 : Int) < ((c.toNat : Nat) : Int)) = true := by
            have : ¬ c.toNat ≤ 57 := fun h => hd (by unfold isDg; simp; omega)
            simp; omega
          clear hd hd' hget hbi hc h48
          go_wp2_with fail
          exact bodyPost_ret (v := .tuple #[.agg #[.int .i64 s1, .bool neg1, .slice A1 n1 c1], .bool false]) (by simp [results, Tryz.results23, go_sem, *]) rfl
            ⟨s1, neg1, A1, n1, c1, _, by rw [HE.out], HIV.out, fun h => (by rw [HE.out] at h; cases h), HBS.out⟩
    · have hke : k = s.size := by have := hk.out; omega
      have hlt' : ¬ (k : Int) < (s.size : Int) := by omega
      have htk : l.take k = l := by rw [hke, HN.out, List.take_length]
      rw [htk] at hdg hbi
      obtain ⟨s1, neg1, A1, n1, c1, ⟨k0, k1, k2, kl⟩, hR⟩ := hbi.out
      have HIV := Lib.hid (show IV (set3 wr w.heap.size (.int .i64 s1) (.bool neg1) (.slice A1 n1 c1)) (.agg #[.int .i64 s1, .bool neg1, .slice A1 n1 c1]) _ from ⟨s1, neg1, A1, n1, c1, rfl, hR.set_3 hwr.out _ _ _⟩)
      have HBS := Lib.hid (set3_below hbel.out (Nat.le_refl _) (.int .i64 s1) (.bool neg1) (.slice A1 n1 c1))
      have HE : Hid (isDec l = !l.isEmpty) := by
        show _ = _
        unfold isDec
        rw [hdg.out]
        rfl
      obtain ⟨⟨p0, p1, p2, x0, x1, x2⟩, y0, y1, y2, -⟩ := hwr.out
      clear hke htk hdg hbi hR
      go_wp2_with fail
      exact bodyPost_ret (v := .tuple #[.agg #[.int .i64 s1, .bool neg1, .slice A1 n1 c1], .bool (!l.isEmpty)]) (by simp [results, Tryz.results23, go_sem, *]) rfl
        ⟨s1, neg1, A1, n1, c1, _, by rw [HE.out], HIV.out, fun h => rfl, HBS.out⟩

end Go.Proofs.YtfhmhkbjcccejaaGreatDoor

namespace Go.Proofs.YtfhmhkbjcccejaaGreatDoor
open Go.RowKit

theorem below_alloc' (w : World) (o : Obj) : Below w.heap.size w (w.alloc o) := (Below.refl _ _).alloc (Nat.le_refl _) _

theorem str_append (a b : List UInt8) : (⟨a.toArray⟩ : ByteArray) ++ (⟨b.toArray⟩ : ByteArray) = ⟨(a ++ b).toArray⟩ := by
  apply ByteArray.ext
  simp [ByteArray.data_append]

set_option maxRecDepth 100000 in
/-- One digit, laid into memory and read back as a text. -/
theorem string_of_digit (d : Nat) (hd : d < 10) (w : World) : (convert 72 9 (.slice (some ⟨w.heap.size, 0, none⟩) 1 1)).run Tryz.prog (w.alloc (.cells #[.int .u8 (48 + (d : Int))] 5)) =
    .ok (.string ⟨[UInt8.ofNat (48 + d)].toArray⟩) (w.alloc (.cells #[.int .u8 (48 + (d : Int))] 5)) := by
  have h := run_convert_bytes_back (P := Tryz.prog) (w.alloc (.cells #[.int .u8 (48 + (d : Int))] 5)) 72 9 5 ⟨w.heap.size, 0, none⟩ 1 [UInt8.ofNat (48 + d)] Tryz.underlying72 Tryz.underlying5 Tryz.underlying9 (fun j hj => by
    have h0 : j = 0 := by simpa using hj
    subst h0
    have e : ((48 : Int) + (d : Int)) = ((UInt8.ofNat (48 + d)).toNat : Int) := by rw [dg_toNat hd]; omega
    show (w.alloc (.cells #[.int .u8 (48 + (d : Int))] 5)).cell? ⟨w.heap.size, 0, none⟩ = _
    rw [World.cell?_alloc_mark]
    show some (Value.int .u8 (48 + (d : Int))) = some (Value.int .u8 ((UInt8.ofNat (48 + d)).toNat : Int))
    rw [e])
  exact h

set_option maxRecDepth 100000 in
set_option maxHeartbeats 4000000 in
theorem digits_last (u : Nat) (hu : u < 10) (w : World) :
    Calls Tryz.prog 38 #[.int .i64 (u : Int)] w fun e w' => e = .returned (.string ⟨(Lib.decDigits u).toArray⟩) ∧ Below w.heap.size w w' := by
  have h0 : decide ((u : Int) < 0) = false := by simp
  have h1 : decide ((u : Int) < 10) = true := by simp; omega
  have hm : (u : Int) % 10 = (u : Int) := by omega
  have hcv := string_of_digit u hu w
  have hE := Lib.hid (Lib.decDigits_one hu)
  rw [hE.out]
  generalize (⟨[UInt8.ofNat (48 + u)].toArray⟩ : ByteArray) = S at hcv ⊢
  clear hu hE
  go_enter Tryz.func38, Tryz.ntmps38
  go_wp2_with fail
  go_ret
  exact ⟨rfl, below_alloc' w _⟩

set_option maxRecDepth 100000 in
set_option maxHeartbeats 4000000 in
theorem digits_more (u : Nat) (hu : 10 ≤ u) (hu2 : u ≤ 9223372036854775807) (w : World) (hlen : (Lib.decDigits (u / 10)).length ≤ 100)
    (ih : Hid (∀ wx, Calls Tryz.prog 38 #[.int .i64 ((u / 10 : Nat) : Int)] wx fun e w' => e = .returned (.string ⟨(Lib.decDigits (u / 10)).toArray⟩) ∧ Below wx.heap.size wx w')) :
    Calls Tryz.prog 38 #[.int .i64 (u : Int)] w fun e w' => e = .returned (.string ⟨(Lib.decDigits u).toArray⟩) ∧ Below w.heap.size w w' := by
  have h0 : decide ((u : Int) < 0) = false := by simp
  have h1 : decide ((u : Int) < 10) = false := by simp; omega
  obtain ⟨d, hd⟩ : ∃ d, u % 10 = d := ⟨_, rfl⟩
  obtain ⟨q, hq⟩ : ∃ q, u / 10 = q := ⟨_, rfl⟩
  have hm : (u : Int) % 10 = (d : Int) := by omega
  have hqq : (u : Int) / 10 = (q : Int) := by omega
  have hcv := string_of_digit d (by omega) w
  have hd9 : d < 10 := by omega
  have hE : Hid (Lib.decDigits u = Lib.decDigits q ++ [UInt8.ofNat (48 + d)]) := by
    show _ = _
    rw [Lib.decDigits, dif_neg (by omega), hd, hq]
  rw [hq] at ih hlen
  rw [hE.out, ← str_append]
  have hsz : (⟨(Lib.decDigits q).toArray⟩ : ByteArray).size + (⟨[UInt8.ofNat (48 + d)].toArray⟩ : ByteArray).size ≤ 9223372036854775807 := by
    show (Lib.decDigits q).toArray.size + [UInt8.ofNat (48 + d)].toArray.size ≤ _
    rw [List.size_toArray, List.size_toArray]
    show _ + 1 ≤ _
    omega
  generalize (⟨[UInt8.ofNat (48 + d)].toArray⟩ : ByteArray) = S at hcv hsz ⊢
  generalize (⟨(Lib.decDigits q).toArray⟩ : ByteArray) = T at ih hsz ⊢
  clear hd hq hlen hE
  go_enter Tryz.func38, Tryz.ntmps38
  go_wp2_with fail
  (with_reducible refine (ih.out _).mono ?_)
  rintro e w1 ⟨rfl, hB⟩
  have HB := Lib.hid ((below_alloc' w _).trans (hB.mono (below_alloc' w _).size))
  clear hB
  go_wp2_with fail
  go_ret
  exact ⟨rfl, HB.out⟩

/-- The reference's numeral of an integer of at least 0. -/
theorem digits_nat (u : Nat) (hu : u ≤ 1152921504606846976) : ∀ w : World, Calls Tryz.prog 38 #[.int .i64 (u : Int)] w fun e w' => e = .returned (.string ⟨(Lib.decDigits u).toArray⟩) ∧ Below w.heap.size w w' := by
  induction u using Nat.strongRecOn with
  | ind u ih =>
    intro w
    by_cases h : u < 10
    · exact digits_last u h w
    · exact digits_more u (by omega) (by omega) w (by have := decDigits_len (u := u / 10) (by omega); omega) (Lib.hid (ih (u / 10) (by omega) (by omega)))

set_option maxRecDepth 100000 in
set_option maxHeartbeats 4000000 in
/-- .. and of any number within the limits. -/
theorem digits_any (n : Int) (h : n.natAbs ≤ 1152921504606846976) (w : World) : Calls Tryz.prog 38 #[.int .i64 n] w fun e w' => e = .returned (.string ⟨(Lib.itoa n).toArray⟩) ∧ Below w.heap.size w w' := by
  by_cases h0 : n < 0
  · obtain ⟨u, hu⟩ : ∃ u : Nat, -n = (u : Int) := ⟨n.natAbs, by omega⟩
    have hn : n.natAbs = u := by omega
    have HU : Hid (∀ wx, Calls Tryz.prog 38 #[.int .i64 (-n)] wx fun e w' => e = .returned (.string ⟨(Lib.decDigits u).toArray⟩) ∧ Below wx.heap.size wx w') := fun wx => by
      rw [hu]
      exact digits_nat u (by omega) wx
    have hE : Hid (Lib.itoa n = [45] ++ Lib.decDigits u) := by
      show _ = _
      unfold Lib.itoa
      rw [if_pos h0, hn]
      rfl
    have hb : decide (n < 0) = true := by simpa using h0
    rw [hE.out, ← str_append]
    have hsz : (⟨[45].toArray⟩ : ByteArray).size + (⟨(Lib.decDigits u).toArray⟩ : ByteArray).size ≤ 9223372036854775807 := by
      have := decDigits_len (u := u) (by omega)
      show [45].toArray.size + (Lib.decDigits u).toArray.size ≤ _
      rw [List.size_toArray, List.size_toArray]
      show 1 + _ ≤ _
      omega
    generalize (⟨(Lib.decDigits u).toArray⟩ : ByteArray) = T at HU hsz ⊢
    have hr0 : -9223372036854775808 ≤ -n := by omega
    have hr1 : -n ≤ 9223372036854775807 := by omega
    clear hE hn hu h
    go_enter Tryz.func38, Tryz.ntmps38
    go_wp2_with fail
    (with_reducible refine (HU.out _).mono ?_)
    rintro e w1 ⟨rfl, hB⟩
    have HB := Lib.hid hB
    clear hB
    go_wp2_with fail
    go_ret
    exact ⟨rfl, HB.out⟩
  · obtain ⟨u, rfl⟩ := Int.eq_ofNat_of_zero_le (show 0 ≤ n by omega)
    have hE : Lib.itoa (u : Int) = Lib.decDigits u := by
      unfold Lib.itoa
      rw [if_neg h0]
      rfl
    rw [hE]
    exact digits_nat u (by omega) w

set_option maxRecDepth 100000 in
set_option maxHeartbeats 4000000 in
/-- The reference's text of a number. -/
theorem write_any (t l : Int) (ht : t.natAbs ≤ 1152921504606846976) (hl : l.natAbs ≤ 1152921504606846976) (hT : (Lib.itoa t).length ≤ 100) (hL : (Lib.itoa l).length ≤ 100) (w : World) :
    Calls Tryz.prog 14 #[.agg #[.int .i64 t, .int .i64 l]] w fun e w' => e = .returned (.string ⟨(textN t l).toArray⟩) ∧ Below w.heap.size w w' := by
  have HT : Hid (∀ wx, Calls Tryz.prog 38 #[.int .i64 t] wx fun e w' => e = .returned (.string ⟨(Lib.itoa t).toArray⟩) ∧ Below wx.heap.size wx w') := fun wx => digits_any t ht wx
  have HL : Hid (∀ wx, Calls Tryz.prog 38 #[.int .i64 l] wx fun e w' => e = .returned (.string ⟨(Lib.itoa l).toArray⟩) ∧ Below wx.heap.size wx w') := fun wx => digits_any l hl wx
  by_cases h1 : l = 1
  · have hE : Hid (textN t l = Lib.itoa t) := if_pos h1
    have hb : (l == 1) = true := by simpa using h1
    rw [hE.out]
    clear h1 hE
    go_enter Tryz.func14, Tryz.ntmps14
    go_wp2_with fail
    (with_reducible refine (HT.out _).mono ?_)
    rintro e w1 ⟨rfl, hB⟩
    have HB := Lib.hid ((below_alloc' w _).trans (hB.mono (below_alloc' w _).size))
    clear hB
    go_wp2_with fail
    go_ret
    exact ⟨rfl, HB.out⟩
  · have hE : Hid (textN t l = (Lib.itoa t ++ [47]) ++ Lib.itoa l) := by
      show _ = _
      unfold textN
      rw [if_neg h1, List.append_assoc]
      rfl
    have hb : (l == 1) = false := by simpa using h1
    rw [hE.out, ← str_append, ← str_append]
    have s1 : (⟨(Lib.itoa t).toArray⟩ : ByteArray).size ≤ 100 := by
      show (Lib.itoa t).toArray.size ≤ _
      rw [List.size_toArray]; exact hT
    have s2 : (⟨(Lib.itoa l).toArray⟩ : ByteArray).size ≤ 100 := by
      show (Lib.itoa l).toArray.size ≤ _
      rw [List.size_toArray]; exact hL
    generalize (⟨(Lib.itoa t).toArray⟩ : ByteArray) = S at *
    generalize (⟨(Lib.itoa l).toArray⟩ : ByteArray) = T at *
    have s3 : (⟨#[47]⟩ : ByteArray).size = 1 := rfl
    have s4 : S.size + (⟨#[47]⟩ : ByteArray).size ≤ 9223372036854775807 := by omega
    have s5 : (S ++ (⟨#[47]⟩ : ByteArray)).size + T.size ≤ 9223372036854775807 := by rw [ByteArray.size_append]; omega
    have s6 : ¬ 9223372036854775807 < S.size + 1 := by omega
    have s7 : ¬ 9223372036854775807 < S.size + 1 + T.size := by omega
    clear hE hT hL h1 s1 s2 s3
    go_enter Tryz.func14, Tryz.ntmps14
    go_wp2_with fail
    generalize hX : w.alloc _ = X
    obtain ⟨k0, k1⟩ : X.cell? ⟨w.heap.size, 0, none⟩ = some (.int .i64 t) ∧ X.cell? ⟨w.heap.size, 1, none⟩ = some (.int .i64 l) := by
      subst hX
      simp [go_sem]
    have HwX : Hid (Below w.heap.size w X) := by
      subst hX
      exact below_alloc' w _
    have zX : w.heap.size < X.heap.size := by
      subst hX
      simp
    clear hX
    go_region_held3 (fun w' => w'.cell? ⟨w.heap.size, 0, none⟩ = some (.int .i64 t) ∧ w'.cell? ⟨w.heap.size, 1, none⟩ = some (.int .i64 l)) (simp [go_sem, *])
      (first
        | (go_at_call 38; (with_reducible refine (HT.out _).mono ?_); rintro e w1 ⟨rfl, hB1⟩; (have R1 : Below X.heap.size X w1 := below_trans_same (by repeat (first | exact Below.refl _ _ | refine Below.drew ?_)) hB1); (have C1 := (bcell R1).1); (have v1 := Nat.lt_of_lt_of_le zX R1.size))
        | (go_at_call 38; (with_reducible refine (HL.out _).mono ?_); rintro e w2 ⟨rfl, hB2⟩; (have R2 : Below X.heap.size X w2 := below_trans_same (by repeat (first | exact R1 | refine Below.drew ?_)) hB2); (have C2 := (bcell R2).1); (have v2 := Nat.lt_of_lt_of_le zX R2.size)))
    all_goals go_wp2_with fail
    all_goals go_ret
    all_goals exact ⟨rfl, HwX.out.trans (R2.mono HwX.out.size)⟩

end Go.Proofs.YtfhmhkbjcccejaaGreatDoor
