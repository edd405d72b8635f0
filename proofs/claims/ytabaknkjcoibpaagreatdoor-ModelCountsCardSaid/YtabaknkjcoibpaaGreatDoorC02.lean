/- Counting strategies, and the strategy that k strategies precede: the reference's Count and Nth. diceboxlaw04.ModelCounts: the walk, and the law for all models and numbers. -/
import Derived.Test.YtabaknkjcoibpaaGreatDoorC01
import Derived.Test.YtabaknkjcoibpaaGreatDoorM33

namespace Go.Proofs.YtabaknkjcoibpaaGreatDoor
open Go.RowKit

theorem iv_small {u : Value} {z : Int} {w : World} (K : Nat) (h : IV w u z) (hK : K ≤ 1000000) (hz : z.natAbs < Bs ^ K) : Calls Tryz.prog 69 #[u] w fun e w' => e = .returned (smallV z) ∧ Below w.heap.size w w' := by
  obtain ⟨s, neg, A, n, c, rfl, h1⟩ := h
  exact rsmall_any s neg A n c z w h1 (Nat.le_trans (h1.len hz) hK)

set_option maxRecDepth 100000 in
set_option maxHeartbeats 20000000 in
theorem rcount_ok (A : Option Addr) (n c : Nat) (w : World) (z r1 r2 : Int) (b : Bool) (HV0 : Hid (CV 21 #[.agg #[.slice A n c]] (.bool true) w))
    (HNu : Hid (∀ wx, Below w.heap.size w wx → Calls Tryz.prog 68 #[.agg #[.slice A n c]] wx (RetV (.int z) wx)))
    (HS : Hid (∀ wx u, IV wx u z → Calls Tryz.prog 69 #[u] wx fun e w' => e = .returned (.tuple #[.int .i64 r1, .bool b]) ∧ Below wx.heap.size wx w'))
    (hr : Hid (b = true ∨ r1 = 0)) (hr2 : Hid (r2 = if b = true then 0 else 3)) :
    Calls Tryz.prog 31 #[.agg #[.slice A n c]] w fun e w' => e = .returned (.tuple #[.int .i64 r1, .int .i64 r2]) ∧ Below w.heap.size w w' := by
  go_enter Tryz.func31, Tryz.ntmps31
  go_upto_region 1 with fail
  generalize hX : w.alloc _ = X
  have HX : Hid (Below w.heap.size w X) := by rw [← hX]; exact below_alloc _ _
  have MX : Hid (MBx X w.heap.size A n c) := by rw [← hX]; exact MBx.new _ _ _ _ _
  clear hX
  obtain ⟨x0, -⟩ := MX.out
  go_wp2_with fail
  (with_reducible refine (HV0.out.run HX.out).mono ?_)
  rintro e w1 ⟨rfl, hB1⟩
  have HX1 := Lib.hid (HX.out.trans (hB1.mono HX.out.size))
  have MX1 := Lib.hid (MX.out.keep hB1)
  clear x0 hB1 MX HX
  obtain ⟨x0, -⟩ := MX1.out
  go_wp2_with fail
  (with_reducible refine (HNu.out _ HX1.out).mono ?_)
  rintro e w2 ⟨u, rfl, hu, hB2⟩
  have HU : Hid (IV w2 u z) := hu
  have HX2 := Lib.hid (HX1.out.trans (hB2.mono HX1.out.size))
  clear x0 hB2 hu
  go_wp2_with fail
  (with_reducible refine (HS.out _ _ HU.out).mono ?_)
  rintro e w3 ⟨rfl, hB3⟩
  have HX3 := Lib.hid (HX2.out.trans (hB3.mono HX2.out.size))
  clear hB3
  cases b with
  | true =>
    go_wp2_with fail
    go_ret2
    have e2 : r2 = 0 := hr2.out
    exact ⟨by rw [e2]; rfl, HX3.out⟩
  | false =>
    go_wp2_with fail
    go_ret2
    have e2 : r2 = 3 := hr2.out
    have e1 : r1 = 0 := hr.out.resolve_left (by simp)
    exact ⟨by rw [e2, e1]; rfl, HX3.out⟩

set_option maxRecDepth 100000 in
set_option maxHeartbeats 20000000 in
theorem rcount_bad (A : Option Addr) (n c : Nat) (w : World) (HV0 : Hid (CV 21 #[.agg #[.slice A n c]] (.bool false) w)) :
    Calls Tryz.prog 31 #[.agg #[.slice A n c]] w fun e w' => e = .returned (.tuple #[.int .i64 0, .int .i64 1]) ∧ Below w.heap.size w w' := by
  go_enter Tryz.func31, Tryz.ntmps31
  go_upto_region 1 with fail
  generalize hX : w.alloc _ = X
  have HX : Hid (Below w.heap.size w X) := by rw [← hX]; exact below_alloc _ _
  have MX : Hid (MBx X w.heap.size A n c) := by rw [← hX]; exact MBx.new _ _ _ _ _
  clear hX
  obtain ⟨x0, -⟩ := MX.out
  go_wp2_with fail
  (with_reducible refine (HV0.out.run HX.out).mono ?_)
  rintro e w1 ⟨rfl, hB1⟩
  have HX1 := Lib.hid (HX.out.trans (hB1.mono HX.out.size))
  have MX1 := Lib.hid (MX.out.keep hB1)
  clear x0 hB1 MX HX
  go_wp2_with fail
  go_ret2
  exact ⟨rfl, HX1.out⟩

set_option maxRecDepth 100000 in
set_option maxHeartbeats 20000000 in
theorem rnth_bad (A : Option Addr) (n c : Nat) (K : Int) (w : World) (HV0 : Hid (CV 21 #[.agg #[.slice A n c]] (.bool false) w)) :
    Calls Tryz.prog 32 #[.agg #[.slice A n c], .int .i64 K] w fun e w' => e = .returned (.tuple #[.slice none 0 0, .int .i64 1]) ∧ Below w.heap.size w w' := by
  go_enter Tryz.func32, Tryz.ntmps32
  go_upto_region 1 with fail
  generalize hX : w.alloc _ = X
  have HX : Hid (Below w.heap.size w X) := by rw [← hX]; exact below_alloc _ _
  have MX : Hid (MBx X w.heap.size A n c) := by rw [← hX]; exact MBx.new _ _ _ _ _
  clear hX
  obtain ⟨x0, -⟩ := MX.out
  go_wp2_with fail
  (with_reducible refine (HV0.out.run HX.out).mono ?_)
  rintro e w1 ⟨rfl, hB1⟩
  have HX1 := Lib.hid (HX.out.trans (hB1.mono HX.out.size))
  have MX1 := Lib.hid (MX.out.keep hB1)
  clear x0 hB1 MX HX
  go_wp2_with fail
  go_ret2
  exact ⟨rfl, HX1.out⟩

set_option maxRecDepth 100000 in
set_option maxHeartbeats 20000000 in
theorem rnth_neg (A : Option Addr) (n c : Nat) (kk : Int) (w : World) (hng : decide (kk < 0) = true) (HV0 : Hid (CV 21 #[.agg #[.slice A n c]] (.bool true) w)) :
    Calls Tryz.prog 32 #[.agg #[.slice A n c], .int .i64 kk] w fun e w' => e = .returned (.tuple #[.slice none 0 0, .int .i64 6]) ∧ Below w.heap.size w w' := by
  go_enter Tryz.func32, Tryz.ntmps32
  go_upto_region 1 with fail
  generalize hX : w.alloc _ = X
  have HX : Hid (Below w.heap.size w X) := by rw [← hX]; exact below_alloc _ _
  have MX : Hid (MBx X w.heap.size A n c) := by rw [← hX]; exact MBx.new _ _ _ _ _
  clear hX
  obtain ⟨x0, -⟩ := MX.out
  go_wp2_with fail
  (with_reducible refine (HV0.out.run HX.out).mono ?_)
  rintro e w1 ⟨rfl, hB1⟩
  have HX1 := Lib.hid (HX.out.trans (hB1.mono HX.out.size))
  have MX1 := Lib.hid (MX.out.keep hB1)
  clear x0 hB1 MX HX
  go_upto_region 3 with fail
  refine wp_region_flow 11 [14, 15, 16, 17, 18, 19, 20, 21, 22, 23, 13] (fun i => if i = 10 then 13 else 14 + i) (fun wx => Below w.heap.size w wx ∧ MBx wx w.heap.size A n c) (Spl [.val (.int .i64 kk), .val (.bool true), .val (.bool true), .val undef, .val undef, .val undef, .val undef, .val undef, .val undef, .val (.bool true), .val (.bool true)]) (by kernel_rfl) (by kernel_rfl) (by kernel_rfl) (by kernel_rfl) (fun i j hi hj h => by have h : (if i = 10 then 13 else 14 + i) = (if j = 10 then 13 else 14 + j) := h; split at h <;> split at h <;> omega) (by decide) (fun _ _ h hb => ⟨h.1.trans (hb.mono h.1.size), h.2.keep hb⟩) Spl.keep ?_ ?_ ?_
  · exact ⟨Below.drew HX1.out, MX1.out⟩
  · intro i v wx o T' K ho hF hdep hin hout hK
    have hi : i < 11 := (Array.getElem?_eq_some_iff.1 ho).1
    have q14 := hin 14 (by decide)
    have q15 := hin 15 (by decide)
    have q16 := hin 16 (by decide)
    have q17 := hin 17 (by decide)
    have q18 := hin 18 (by decide)
    have q19 := hin 19 (by decide)
    have q20 := hin 20 (by decide)
    have q21 := hin 21 (by decide)
    have q22 := hin 22 (by decide)
    have q23 := hin 23 (by decide)
    have q13 := hin 13 (by decide)
    have sl1 : T'[1]? = some (.int .i64 kk) := (hout 1 (by decide)).trans rfl
    have sl2 : T'[2]? = some (.pointer (some ⟨w.heap.size, 0, none⟩)) := (hout 2 (by decide)).trans rfl
    clear hin hout
    have HF := Lib.hid hF
    have HD := Lib.hid hdep
    clear hF hdep
    rcases (by omega : i = 0 ∨ i = 1 ∨ i = 2 ∨ i = 3 ∨ i = 4 ∨ i = 5 ∨ i = 6 ∨ i = 7 ∨ i = 8 ∨ i = 9 ∨ i = 10) with rfl | rfl | rfl | rfl | rfl | rfl | rfl | rfl | rfl | rfl | rfl
    · obtain rfl := Option.some.inj ho
      clear q14 q15 q16 q17 q18 q19 q20 q21 q22 q23 q13 sl2 ho hi
      go_simp
      exact hK _ _ (Below.refl _ _) rfl
    · obtain rfl := Option.some.inj ho
      have e0 : v 14 = (.int .i64 kk) := HD.out ⟨0, .data⟩ (by simp) rfl
      rw [e0] at q14
      clear q15 q16 q17 q18 q19 q20 q21 q22 q23 q13 sl1 sl2 ho hi
      go_simp
      try rw [hng]
      exact hK _ _ (Below.refl _ _) rfl
    · obtain rfl := Option.some.inj ho
      have e0 : v 15 = (.bool true) := HD.out ⟨1, .data⟩ (by simp) rfl
      rw [e0] at q15
      clear q14 q16 q17 q18 q19 q20 q21 q22 q23 q13 sl1 sl2 ho hi
      go_simp
      exact hK _ _ (Below.refl _ _) rfl
    · obtain rfl := Option.some.inj ho
      have eg : v 16 = (.bool true) := HD.out ⟨2, .guard⟩ (by simp) rfl
      rw [eg] at q16
      clear q14 q15 q17 q18 q19 q20 q21 q22 q23 q13 sl1 sl2 ho hi
      go_simp
      exact hK _ _ (Below.refl _ _) rfl
    · obtain rfl := Option.some.inj ho
      have eg : v 16 = (.bool true) := HD.out ⟨2, .guard⟩ (by simp) rfl
      rw [eg] at q16
      clear q14 q15 q17 q18 q19 q20 q21 q22 q23 q13 sl1 sl2 ho hi
      go_simp
      exact hK _ _ (Below.refl _ _) rfl
    · obtain rfl := Option.some.inj ho
      have eg : v 16 = (.bool true) := HD.out ⟨2, .guard⟩ (by simp) rfl
      rw [eg] at q16
      clear q14 q15 q17 q18 q19 q20 q21 q22 q23 q13 sl1 sl2 ho hi
      go_simp
      exact hK _ _ (Below.refl _ _) rfl
    · obtain rfl := Option.some.inj ho
      have eg : v 16 = (.bool true) := HD.out ⟨2, .guard⟩ (by simp) rfl
      rw [eg] at q16
      clear q14 q15 q17 q18 q19 q20 q21 q22 q23 q13 sl1 sl2 ho hi
      go_simp
      exact hK _ _ (Below.refl _ _) rfl
    · obtain rfl := Option.some.inj ho
      have eg : v 16 = (.bool true) := HD.out ⟨2, .guard⟩ (by simp) rfl
      rw [eg] at q16
      clear q14 q15 q17 q18 q19 q20 q21 q22 q23 q13 sl1 sl2 ho hi
      go_simp
      exact hK _ _ (Below.refl _ _) rfl
    · obtain rfl := Option.some.inj ho
      have eg : v 16 = (.bool true) := HD.out ⟨2, .guard⟩ (by simp) rfl
      rw [eg] at q16
      clear q14 q15 q17 q18 q19 q20 q21 q22 q23 q13 sl1 sl2 ho hi
      go_simp
      exact hK _ _ (Below.refl _ _) rfl
    · obtain rfl := Option.some.inj ho
      have e0 : v 16 = (.bool true) := HD.out ⟨2, .data⟩ (by simp) rfl
      rw [e0] at q16
      have e1 : v 22 = undef := HD.out ⟨8, .data⟩ (by simp) rfl
      rw [e1] at q22
      clear q14 q15 q17 q18 q19 q20 q21 q23 q13 sl1 sl2 ho hi
      go_simp
      exact hK _ _ (Below.refl _ _) rfl
    · obtain rfl := Option.some.inj ho
      have e0 : v 23 = (.bool true) := HD.out ⟨9, .data⟩ (by simp) rfl
      rw [e0] at q23
      clear q14 q15 q16 q17 q18 q19 q20 q21 q22 q13 sl1 sl2 ho hi
      go_simp
      exact hK _ _ (Below.refl _ _) rfl
  · intro v wx hF hall
    have h13 : v 13 = .bool true := hall 10 (by decide)
    have HB := Lib.hid hF.1
    have HMB := Lib.hid hF.2
    clear hF hall
    simp only [over, List.setIfInBounds_toArray, List.set_cons_zero, List.set_cons_succ]
    rw [h13]
    generalize v 14 = v14
    generalize v 15 = v15
    generalize v 16 = v16
    generalize v 17 = v17
    generalize v 18 = v18
    generalize v 19 = v19
    generalize v 20 = v20
    generalize v 21 = v21
    generalize v 22 = v22
    generalize v 23 = v23
    go_wp2_with fail
    go_ret2
    exact ⟨rfl, HB.out⟩

set_option maxRecDepth 100000 in
set_option maxHeartbeats 20000000 in
theorem rnth_far (A : Option Addr) (n c : Nat) (kk z sg : Int) (w : World) (hng : decide (kk < 0) = false) (hgq : decide (0 ≤ sg) = true) (HV0 : Hid (CV 21 #[.agg #[.slice A n c]] (.bool true) w))
    (HO : Hid (∀ wx, Calls Tryz.prog 70 #[.int .i64 kk] wx (RetV (.int kk) wx)))
    (HNu : Hid (∀ wx, Below w.heap.size w wx → Calls Tryz.prog 68 #[.agg #[.slice A n c]] wx (RetV (.int z) wx)))
    (HC : Hid (∀ wx u u', IV wx u kk → IV wx u' z → Calls Tryz.prog 71 #[u, u'] wx (RetV (.val (.int .i64 sg)) wx))) :
    Calls Tryz.prog 32 #[.agg #[.slice A n c], .int .i64 kk] w fun e w' => e = .returned (.tuple #[.slice none 0 0, .int .i64 6]) ∧ Below w.heap.size w w' := by
  go_enter Tryz.func32, Tryz.ntmps32
  go_upto_region 1 with fail
  generalize hX : w.alloc _ = X
  have HX : Hid (Below w.heap.size w X) := by rw [← hX]; exact below_alloc _ _
  have MX : Hid (MBx X w.heap.size A n c) := by rw [← hX]; exact MBx.new _ _ _ _ _
  clear hX
  obtain ⟨x0, -⟩ := MX.out
  go_wp2_with fail
  (with_reducible refine (HV0.out.run HX.out).mono ?_)
  rintro e w1 ⟨rfl, hB1⟩
  have HX1 := Lib.hid (HX.out.trans (hB1.mono HX.out.size))
  have MX1 := Lib.hid (MX.out.keep hB1)
  clear x0 hB1 MX HX
  go_upto_region 3 with fail
  refine wp_region_flow 11 [14, 15, 16, 17, 18, 19, 20, 21, 22, 23, 13] (fun i => if i = 10 then 13 else 14 + i) (fun wx => Below w.heap.size w wx ∧ MBx wx w.heap.size A n c) (Spl [.val (.int .i64 kk), .val (.bool false), .val (.bool false), .val (.int .i64 kk), .int kk, .val (.agg #[.slice A n c]), .int z, .val (.int .i64 sg), .val (.bool true), .val (.bool true), .val (.bool true)]) (by kernel_rfl) (by kernel_rfl) (by kernel_rfl) (by kernel_rfl) (fun i j hi hj h => by have h : (if i = 10 then 13 else 14 + i) = (if j = 10 then 13 else 14 + j) := h; split at h <;> split at h <;> omega) (by decide) (fun _ _ h hb => ⟨h.1.trans (hb.mono h.1.size), h.2.keep hb⟩) Spl.keep ?_ ?_ ?_
  · exact ⟨Below.drew HX1.out, MX1.out⟩
  · intro i v wx o T' K ho hF hdep hin hout hK
    have hi : i < 11 := (Array.getElem?_eq_some_iff.1 ho).1
    have q14 := hin 14 (by decide)
    have q15 := hin 15 (by decide)
    have q16 := hin 16 (by decide)
    have q17 := hin 17 (by decide)
    have q18 := hin 18 (by decide)
    have q19 := hin 19 (by decide)
    have q20 := hin 20 (by decide)
    have q21 := hin 21 (by decide)
    have q22 := hin 22 (by decide)
    have q23 := hin 23 (by decide)
    have q13 := hin 13 (by decide)
    have sl1 : T'[1]? = some (.int .i64 kk) := (hout 1 (by decide)).trans rfl
    have sl2 : T'[2]? = some (.pointer (some ⟨w.heap.size, 0, none⟩)) := (hout 2 (by decide)).trans rfl
    clear hin hout
    have HF := Lib.hid hF
    have HD := Lib.hid hdep
    clear hF hdep
    rcases (by omega : i = 0 ∨ i = 1 ∨ i = 2 ∨ i = 3 ∨ i = 4 ∨ i = 5 ∨ i = 6 ∨ i = 7 ∨ i = 8 ∨ i = 9 ∨ i = 10) with rfl | rfl | rfl | rfl | rfl | rfl | rfl | rfl | rfl | rfl | rfl
    · obtain rfl := Option.some.inj ho
      clear q14 q15 q16 q17 q18 q19 q20 q21 q22 q23 q13 sl2 ho hi
      go_simp
      exact hK _ _ (Below.refl _ _) rfl
    · obtain rfl := Option.some.inj ho
      have e0 : v 14 = (.int .i64 kk) := HD.out ⟨0, .data⟩ (by simp) rfl
      rw [e0] at q14
      clear q15 q16 q17 q18 q19 q20 q21 q22 q23 q13 sl1 sl2 ho hi
      go_simp
      try rw [hng]
      exact hK _ _ (Below.refl _ _) rfl
    · obtain rfl := Option.some.inj ho
      have e0 : v 15 = (.bool false) := HD.out ⟨1, .data⟩ (by simp) rfl
      rw [e0] at q15
      clear q14 q16 q17 q18 q19 q20 q21 q22 q23 q13 sl1 sl2 ho hi
      go_simp
      exact hK _ _ (Below.refl _ _) rfl
    · obtain rfl := Option.some.inj ho
      have eg : v 16 = (.bool false) := HD.out ⟨2, .guard⟩ (by simp) rfl
      rw [eg] at q16
      clear q14 q15 q17 q18 q19 q20 q21 q22 q23 q13 sl2 ho hi
      go_simp
      exact hK _ _ (Below.refl _ _) rfl
    · obtain rfl := Option.some.inj ho
      have eg : v 16 = (.bool false) := HD.out ⟨2, .guard⟩ (by simp) rfl
      rw [eg] at q16
      have e0 : v 17 = (.int .i64 kk) := HD.out ⟨3, .data⟩ (by simp) rfl
      rw [e0] at q17
      clear q14 q15 q18 q19 q20 q21 q22 q23 q13 sl1 sl2 ho hi
      go_simp
      (with_reducible refine (HO.out _).mono ?_)
      rintro e w2 ⟨u, rfl, hu, hB⟩
      exact hK _ _ hB hu
    · obtain rfl := Option.some.inj ho
      have eg : v 16 = (.bool false) := HD.out ⟨2, .guard⟩ (by simp) rfl
      rw [eg] at q16
      obtain ⟨k0, -⟩ := HF.out.2
      have hP := (rfl : Value.agg #[.slice A n c] = .agg #[.slice A n c])
      clear q14 q15 q17 q18 q19 q20 q21 q22 q23 q13 sl1 ho hi
      go_simp
      exact hK _ _ (Below.refl _ _) hP
    · obtain rfl := Option.some.inj ho
      have eg : v 16 = (.bool false) := HD.out ⟨2, .guard⟩ (by simp) rfl
      rw [eg] at q16
      have e0 : v 19 = (.agg #[.slice A n c]) := HD.out ⟨5, .data⟩ (by simp) rfl
      rw [e0] at q19
      clear q14 q15 q17 q18 q20 q21 q22 q23 q13 sl1 sl2 ho hi
      go_simp
      (with_reducible refine (HNu.out wx HF.out.1).mono ?_)
      rintro e w2 ⟨u, rfl, hu, hB⟩
      exact hK _ _ hB hu
    · obtain rfl := Option.some.inj ho
      have eg : v 16 = (.bool false) := HD.out ⟨2, .guard⟩ (by simp) rfl
      rw [eg] at q16
      have h0 : IV wx (v 18) kk := HD.out ⟨4, .data⟩ (by simp) rfl
      have h1 : IV wx (v 20) z := HD.out ⟨6, .data⟩ (by simp) rfl
      clear q14 q15 q17 q19 q21 q22 q23 q13 sl1 sl2 ho hi
      go_simp
      (with_reducible refine (HC.out _ _ _ h0 h1).mono ?_)
      rintro e w2 ⟨u, rfl, hu, hB⟩
      exact hK _ _ hB hu
    · obtain rfl := Option.some.inj ho
      have eg : v 16 = (.bool false) := HD.out ⟨2, .guard⟩ (by simp) rfl
      rw [eg] at q16
      have e0 : v 21 = (.int .i64 sg) := HD.out ⟨7, .data⟩ (by simp) rfl
      rw [e0] at q21
      clear q14 q15 q17 q18 q19 q20 q22 q23 q13 sl1 sl2 ho hi
      go_simp
      try rw [hgq]
      exact hK _ _ (Below.refl _ _) rfl
    · obtain rfl := Option.some.inj ho
      have e0 : v 16 = (.bool false) := HD.out ⟨2, .data⟩ (by simp) rfl
      rw [e0] at q16
      have e1 : v 22 = (.bool true) := HD.out ⟨8, .data⟩ (by simp) rfl
      rw [e1] at q22
      clear q14 q15 q17 q18 q19 q20 q21 q23 q13 sl1 sl2 ho hi
      go_simp
      exact hK _ _ (Below.refl _ _) rfl
    · obtain rfl := Option.some.inj ho
      have e0 : v 23 = (.bool true) := HD.out ⟨9, .data⟩ (by simp) rfl
      rw [e0] at q23
      clear q14 q15 q16 q17 q18 q19 q20 q21 q22 q13 sl1 sl2 ho hi
      go_simp
      exact hK _ _ (Below.refl _ _) rfl
  · intro v wx hF hall
    have h13 : v 13 = .bool true := hall 10 (by decide)
    have HB := Lib.hid hF.1
    have HMB := Lib.hid hF.2
    clear hF hall
    simp only [over, List.setIfInBounds_toArray, List.set_cons_zero, List.set_cons_succ]
    rw [h13]
    generalize v 14 = v14
    generalize v 15 = v15
    generalize v 16 = v16
    generalize v 17 = v17
    generalize v 18 = v18
    generalize v 19 = v19
    generalize v 20 = v20
    generalize v 21 = v21
    generalize v 22 = v22
    generalize v 23 = v23
    go_wp2_with fail
    go_ret2
    exact ⟨rfl, HB.out⟩

set_option maxRecDepth 100000 in
set_option maxHeartbeats 20000000 in
theorem rnth_ok (A : Option Addr) (n c : Nat) (kk z sg : Int) (w : World) (hng : decide (kk < 0) = false) (hgq : decide (0 ≤ sg) = false) (n40 : n ≤ 40) (st : Nat → StV) (KN : Nat) (hkk : Hid (kk = (KN : Int) ∧ KN ≤ 9223372036854775807)) (H : moB n st = true) (hA : Lst w A n st) (HV0 : Hid (CV 21 #[.agg #[.slice A n c]] (.bool true) w))
    (HO : Hid (∀ wx, Calls Tryz.prog 70 #[.int .i64 kk] wx (RetV (.int kk) wx)))
    (HNu : Hid (∀ wx, Below w.heap.size w wx → Calls Tryz.prog 68 #[.agg #[.slice A n c]] wx (RetV (.int z) wx)))
    (HC : Hid (∀ wx u u', IV wx u kk → IV wx u' z → Calls Tryz.prog 71 #[u, u'] wx (RetV (.val (.int .i64 sg)) wx))) :
    Calls Tryz.prog 32 #[.agg #[.slice A n c], .int .i64 kk] w (RetZs n (fun i => ((dgN (chN st) n KN i : Nat) : Int)) w) := by
  have HA := Lib.hid hA
  have HM := Lib.hid H
  clear hA H
  go_enter Tryz.func32, Tryz.ntmps32
  go_upto_region 1 with fail
  generalize hX : w.alloc _ = X
  have HX : Hid (Below w.heap.size w X) := by rw [← hX]; exact below_alloc _ _
  have MX : Hid (MBx X w.heap.size A n c) := by rw [← hX]; exact MBx.new _ _ _ _ _
  clear hX
  obtain ⟨x0, -⟩ := MX.out
  go_wp2_with fail
  (with_reducible refine (HV0.out.run HX.out).mono ?_)
  rintro e w1 ⟨rfl, hB1⟩
  have HX1 := Lib.hid (HX.out.trans (hB1.mono HX.out.size))
  have MX1 := Lib.hid (MX.out.keep hB1)
  clear x0 hB1 MX HX
  go_upto_region 3 with fail
  refine wp_region_flow 11 [14, 15, 16, 17, 18, 19, 20, 21, 22, 23, 13] (fun i => if i = 10 then 13 else 14 + i) (fun wx => Below w.heap.size w wx ∧ MBx wx w.heap.size A n c) (Spl [.val (.int .i64 kk), .val (.bool false), .val (.bool false), .val (.int .i64 kk), .int kk, .val (.agg #[.slice A n c]), .int z, .val (.int .i64 sg), .val (.bool false), .val (.bool false), .val (.bool false)]) (by kernel_rfl) (by kernel_rfl) (by kernel_rfl) (by kernel_rfl) (fun i j hi hj h => by have h : (if i = 10 then 13 else 14 + i) = (if j = 10 then 13 else 14 + j) := h; split at h <;> split at h <;> omega) (by decide) (fun _ _ h hb => ⟨h.1.trans (hb.mono h.1.size), h.2.keep hb⟩) Spl.keep ?_ ?_ ?_
  · exact ⟨Below.drew HX1.out, MX1.out⟩
  · intro i v wx o T' K ho hF hdep hin hout hK
    have hi : i < 11 := (Array.getElem?_eq_some_iff.1 ho).1
    have q14 := hin 14 (by decide)
    have q15 := hin 15 (by decide)
    have q16 := hin 16 (by decide)
    have q17 := hin 17 (by decide)
    have q18 := hin 18 (by decide)
    have q19 := hin 19 (by decide)
    have q20 := hin 20 (by decide)
    have q21 := hin 21 (by decide)
    have q22 := hin 22 (by decide)
    have q23 := hin 23 (by decide)
    have q13 := hin 13 (by decide)
    have sl1 : T'[1]? = some (.int .i64 kk) := (hout 1 (by decide)).trans rfl
    have sl2 : T'[2]? = some (.pointer (some ⟨w.heap.size, 0, none⟩)) := (hout 2 (by decide)).trans rfl
    clear hin hout
    have HF := Lib.hid hF
    have HD := Lib.hid hdep
    clear hF hdep
    rcases (by omega : i = 0 ∨ i = 1 ∨ i = 2 ∨ i = 3 ∨ i = 4 ∨ i = 5 ∨ i = 6 ∨ i = 7 ∨ i = 8 ∨ i = 9 ∨ i = 10) with rfl | rfl | rfl | rfl | rfl | rfl | rfl | rfl | rfl | rfl | rfl
    · obtain rfl := Option.some.inj ho
      clear q14 q15 q16 q17 q18 q19 q20 q21 q22 q23 q13 sl2 ho hi
      go_simp
      exact hK _ _ (Below.refl _ _) rfl
    · obtain rfl := Option.some.inj ho
      have e0 : v 14 = (.int .i64 kk) := HD.out ⟨0, .data⟩ (by simp) rfl
      rw [e0] at q14
      clear q15 q16 q17 q18 q19 q20 q21 q22 q23 q13 sl1 sl2 ho hi
      go_simp
      try rw [hng]
      exact hK _ _ (Below.refl _ _) rfl
    · obtain rfl := Option.some.inj ho
      have e0 : v 15 = (.bool false) := HD.out ⟨1, .data⟩ (by simp) rfl
      rw [e0] at q15
      clear q14 q16 q17 q18 q19 q20 q21 q22 q23 q13 sl1 sl2 ho hi
      go_simp
      exact hK _ _ (Below.refl _ _) rfl
    · obtain rfl := Option.some.inj ho
      have eg : v 16 = (.bool false) := HD.out ⟨2, .guard⟩ (by simp) rfl
      rw [eg] at q16
      clear q14 q15 q17 q18 q19 q20 q21 q22 q23 q13 sl2 ho hi
      go_simp
      exact hK _ _ (Below.refl _ _) rfl
    · obtain rfl := Option.some.inj ho
      have eg : v 16 = (.bool false) := HD.out ⟨2, .guard⟩ (by simp) rfl
      rw [eg] at q16
      have e0 : v 17 = (.int .i64 kk) := HD.out ⟨3, .data⟩ (by simp) rfl
      rw [e0] at q17
      clear q14 q15 q18 q19 q20 q21 q22 q23 q13 sl1 sl2 ho hi
      go_simp
      (with_reducible refine (HO.out _).mono ?_)
      rintro e w2 ⟨u, rfl, hu, hB⟩
      exact hK _ _ hB hu
    · obtain rfl := Option.some.inj ho
      have eg : v 16 = (.bool false) := HD.out ⟨2, .guard⟩ (by simp) rfl
      rw [eg] at q16
      obtain ⟨k0, -⟩ := HF.out.2
      have hP := (rfl : Value.agg #[.slice A n c] = .agg #[.slice A n c])
      clear q14 q15 q17 q18 q19 q20 q21 q22 q23 q13 sl1 ho hi
      go_simp
      exact hK _ _ (Below.refl _ _) hP
    · obtain rfl := Option.some.inj ho
      have eg : v 16 = (.bool false) := HD.out ⟨2, .guard⟩ (by simp) rfl
      rw [eg] at q16
      have e0 : v 19 = (.agg #[.slice A n c]) := HD.out ⟨5, .data⟩ (by simp) rfl
      rw [e0] at q19
      clear q14 q15 q17 q18 q20 q21 q22 q23 q13 sl1 sl2 ho hi
      go_simp
      (with_reducible refine (HNu.out wx HF.out.1).mono ?_)
      rintro e w2 ⟨u, rfl, hu, hB⟩
      exact hK _ _ hB hu
    · obtain rfl := Option.some.inj ho
      have eg : v 16 = (.bool false) := HD.out ⟨2, .guard⟩ (by simp) rfl
      rw [eg] at q16
      have h0 : IV wx (v 18) kk := HD.out ⟨4, .data⟩ (by simp) rfl
      have h1 : IV wx (v 20) z := HD.out ⟨6, .data⟩ (by simp) rfl
      clear q14 q15 q17 q19 q21 q22 q23 q13 sl1 sl2 ho hi
      go_simp
      (with_reducible refine (HC.out _ _ _ h0 h1).mono ?_)
      rintro e w2 ⟨u, rfl, hu, hB⟩
      exact hK _ _ hB hu
    · obtain rfl := Option.some.inj ho
      have eg : v 16 = (.bool false) := HD.out ⟨2, .guard⟩ (by simp) rfl
      rw [eg] at q16
      have e0 : v 21 = (.int .i64 sg) := HD.out ⟨7, .data⟩ (by simp) rfl
      rw [e0] at q21
      clear q14 q15 q17 q18 q19 q20 q22 q23 q13 sl1 sl2 ho hi
      go_simp
      try rw [hgq]
      exact hK _ _ (Below.refl _ _) rfl
    · obtain rfl := Option.some.inj ho
      have e0 : v 16 = (.bool false) := HD.out ⟨2, .data⟩ (by simp) rfl
      rw [e0] at q16
      have e1 : v 22 = (.bool false) := HD.out ⟨8, .data⟩ (by simp) rfl
      rw [e1] at q22
      clear q14 q15 q17 q18 q19 q20 q21 q23 q13 sl1 sl2 ho hi
      go_simp
      exact hK _ _ (Below.refl _ _) rfl
    · obtain rfl := Option.some.inj ho
      have e0 : v 23 = (.bool false) := HD.out ⟨9, .data⟩ (by simp) rfl
      rw [e0] at q23
      clear q14 q15 q16 q17 q18 q19 q20 q21 q22 q13 sl1 sl2 ho hi
      go_simp
      exact hK _ _ (Below.refl _ _) rfl
  · intro v wx hF hall
    have h13 : v 13 = .bool false := hall 10 (by decide)
    have HB := Lib.hid hF.1
    have HMB := Lib.hid hF.2
    clear hF hall
    simp only [over, List.setIfInBounds_toArray, List.set_cons_zero, List.set_cons_succ]
    rw [h13]
    generalize v 14 = v14
    generalize v 15 = v15
    generalize v 16 = v16
    generalize v 17 = v17
    generalize v 18 = v18
    generalize v 19 = v19
    generalize v 20 = v20
    generalize v 21 = v21
    generalize v 22 = v22
    generalize v 23 = v23
    obtain ⟨hk2, HK⟩ := hkk.out
    subst hk2
    have HK := Lib.hid HK
    clear hkk HO HNu HC hgq hng
    obtain ⟨x0, -⟩ := HMB.out
    have hmk := make_ints n (by omega)
    go_wp2_with fail
    clear hmk x0
    generalize hY : wx.alloc _ = Y
    have WY : Hid (Wri Y wx.heap.size n (chN st) KN n) := by rw [← hY]; exact ⟨_, RowZ.new _ _, fun j h1 h2 => absurd h1 (by omega)⟩
    have HY : Hid (Below w.heap.size w Y) := by rw [← hY]; exact Lib.hid (HB.out.trans ((below_alloc wx _).mono HB.out.size))
    have MY : Hid (MBx Y w.heap.size A n c) := by rw [← hY]; exact Lib.hid (HMB.out.keep (below_alloc _ _))
    have hG : w.heap.size < wx.heap.size := HMB.out.2
    clear hY HB HMB HX1 MX1
    generalize wx.heap.size = G at WY hG ⊢
    go_loopw [1, 7] (fun u i wr => ∃ q : Nat, Hid (q ≤ n) ∧ i = .int .i64 ((q : Int) - 1) ∧ u = .int .i64 ((lef (chN st) n KN q : Nat) : Int) ∧ Hid (lef (chN st) n KN q ≤ 9223372036854775807) ∧ Hid (Wri wr G n (chN st) KN q) ∧ Hid (MBx wr w.heap.size A n c) ∧ Hid (Below w.heap.size w wr)) (fun _ i _ => (intOf i + 1).toNat)
    case atStart => exact ⟨n, Nat.le_refl _, rfl, by rw [lef_n], Lib.hid (by rw [lef_n]; exact HK.out), WY, MY, HY⟩
    case round =>
      obtain ⟨q, hq, rfl, rfl, hl, hW, hM, hB⟩ := hrel
      clear WY MY HY
      obtain ⟨x0, -⟩ := hM.out
      cases q with
      | zero =>
        rw [show (((0 : Nat) : Int) - 1) = -1 from rfl]
        go_wp2_with fail
        exact bodyPost_ret (v := .tuple #[.slice (some ⟨G, 0, none⟩) n n, .int .i64 0]) (by simp [results, Tryz.results32, go_sem, *]) rfl ⟨_, rfl, hW.out.lin, hB.out⟩
      | succ q =>
        rw [show (((q + 1 : Nat) : Int) - 1) = (q : Int) by omega]
        have hlt : q < n := hq.out
        obtain ⟨b, off, rfl, hb, hcells⟩ := (HA.out.keep hB.out).1 (by omega)
        obtain ⟨hc0, hc1, hc2⟩ := hcells q hlt
        dsimp only at hc0 hc1 hc2
        have hlt' : (q : Int) < (n : Int) := by omega
        have hn1 := chN_pos HM.out q hlt
        have hn2 := chN_le HM.out q hlt
        obtain ⟨p, hR, hp⟩ := hW.out
        have hcell := hR.cell hlt
        have hfr := hR.frozen q
        have HST := Lib.hid (lef_step (chN st) (K := KN) hlt)
        have HDG := Lib.hid (show dgN (chN st) n KN q = lef (chN st) n KN (q + 1) % chN st q from rfl)
        have hle := hl.out
        have HWS := Lib.hid (Wri.step (q := q) hW.out)
        obtain ⟨hcs, hfrz, hshape⟩ := hR
        clear hcells hp
        unfold chN at hn1 hn2
        have HNK := Lib.hid (show chN st q = (st q).n from rfl)
        generalize (st q).A = Ak at hc2
        generalize (st q).n = nk at hc2 hn1 hn2 HNK
        generalize (st q).c = ck at hc2
        generalize (st q).ow = tk at hc0
        generalize (st q).mrk = lk at hc1
        generalize lef (chN st) n KN (q + 1) = x at hle HST HDG
        have hne : (nk : Int) ≠ 0 := by omega
        have hq1 : (x : Int).tdiv (nk : Int) = ((x / nk : Nat) : Int) := rfl
        have hq2 : (x : Int).tmod (nk : Int) = ((x % nk : Nat) : Int) := rfl
        have HWR : Hid (wrap64 ((x : Int) / (nk : Int)) = ((lef (chN st) n KN q : Nat) : Int) ∧ lef (chN st) n KN q ≤ 9223372036854775807) := by
          have hq3 : x / nk ≤ x := Nat.div_le_self _ _
          rw [HST.out, HNK.out]
          refine Lib.hid ⟨?_, by omega⟩
          show wrap64 ((x / nk : Nat) : Int) = _
          generalize x / nk = u at hq3
          exact IntWalk.wrap64_in (u : Int) (by omega)
        rw [HDG.out, HNK.out] at HWS
        have hq3 : x / nk ≤ x := Nat.div_le_self _ _
        have hq4 : x % nk < nk := Nat.mod_lt _ (by omega)
        go_wp2_with fail
        clear hq1 hq2 hq3 hq4
        go_region
        all_goals go_wp2_with fail
        all_goals exact ⟨⟨q, Lib.hid (by omega), rfl, congrArg (Value.int .i64) HWR.out.1, Lib.hid HWR.out.2, HWS, Lib.hid (hM.out.far hG _ _), Lib.hid (Below.drew (hB.out.setCell (p := ⟨G, q, none⟩) (Nat.le_of_lt hG) _))⟩, by simp [intOf]⟩

end Go.Proofs.YtabaknkjcoibpaaGreatDoor

namespace Go.Proofs.YtabaknkjcoibpaaGreatDoor
open Go.RowKit

theorem list1 {X Y : World} {v1 : Value} {T : Nat} (h : X.alloc (.cells #[v1] T) = Y) : Y.cell? ⟨X.heap.size, 0, none⟩ = some v1 ∧ X.heap.size < Y.heap.size := by
  subst h
  simp [go_sem]
theorem all1 (b1 : Bool) : allB (fun _ => b1) 1 = b1 := by
  cases b1 <;> rfl
/-- A list of whole numbers and an error have been returned. -/
def RetNz (m : Nat) (f : Nat → Int) (y : Int) (w : World) (e : Ending) (w' : World) : Prop := ∃ A, e = .returned (.tuple #[.slice A m m, .int .i64 y]) ∧ Lin w' A m f ∧ Below w.heap.size w w'
theorem RetZs.nz {n : Nat} {f : Nat → Int} {w : World} {e : Ending} {w' : World} (h : RetZs n f w e w') : RetNz n f 0 w e w' := h
theorem nz_err {y : Int} {w : World} {e : Ending} {w' : World} (h : e = .returned (.tuple #[.slice none 0 0, .int .i64 y]) ∧ Below w.heap.size w w') : RetNz 0 (fun _ => 0) y w e w' :=
  ⟨none, h.1, fun h => absurd h (by omega), h.2⟩


set_option maxRecDepth 100000 in
set_option maxHeartbeats 40000000 in
theorem counts_dark (A : Option Addr) (n c : Nat) (kk : Int) (b1 : Bool) (hb : b1 = false) (w : World)
    (HFa : Hid (CV 43 #[.int .i64 40, .agg #[.slice A n c]] (.bool b1) w))
    (HAw : Hid (CV 11 #[] (.bool true) w)) :
    Calls Tryz.prog 5 #[.agg #[.slice A n c], .int .i64 kk] w fun e w' => e = .returned (.bool true) ∧ Below w.heap.size w w' := by
  go_enter Tryz.func5, Tryz.ntmps5
  go_upto_region 1 with fail
  generalize hX : w.alloc _ = X
  have HX : Hid (Below w.heap.size w X) := by rw [← hX]; exact below_alloc _ _
  have KX : Hid (MBx X w.heap.size A n c) := by rw [← hX]; exact MBx.new _ _ _ _ _
  clear hX
  obtain ⟨k0, -⟩ := KX.out
  go_wp2_with fail
  clear k0
  generalize hY : X.alloc _ = Y
  have HY : Hid (Below w.heap.size w Y) := by rw [← hY]; exact Lib.hid (HX.out.trans ((below_alloc X _).mono HX.out.size))
  have KY : Hid (MBx Y w.heap.size A n c) := by rw [← hY]; exact Lib.hid (KX.out.keep (below_alloc _ _))
  obtain ⟨y0, y2⟩ := list1 hY
  clear hY HX KX
  have HLs : Hid (∀ i, i < 1 → Y.cell? ⟨X.heap.size, i, none⟩ = some (.slice ((fun _ => A) i) ((fun _ => n) i) ((fun _ => c) i))) := fun i hi => by
    obtain rfl : i = 0 := by omega
    exact y0
  have HFs : Hid (∀ i, i < 1 → CV 43 #[.int .i64 40, .agg #[.slice ((fun _ => A) i) ((fun _ => n) i) ((fun _ => c) i)]] (.bool ((fun _ => b1) i)) Y) := fun i hi => HFa.out.keep HY.out
  (with_reducible refine (lfew_any X.heap.size 1 (fun _ => A) (fun _ => n) (fun _ => c) (fun _ => b1) Y (by omega) y2 HLs HFs).mono ?_)
  rintro e w0 ⟨rfl, hB⟩
  rw [all1]
  have H0 := Lib.hid (HY.out.trans (hB.mono HY.out.size))
  have K0 := Lib.hid (KY.out.keep hB)
  clear hB HY KY y0 y2 HFa HLs HFs
  rw [hb]
  go_wp2_with fail
  (with_reducible refine (HAw.out.run H0.out).mono ?_)
  rintro e wz ⟨rfl, hBz⟩
  have CZ := Lib.hid (H0.out.trans (hBz.mono H0.out.size))
  clear hBz
  go_wp2_with fail
  go_ret
  exact ⟨rfl, CZ.out⟩


set_option maxRecDepth 100000 in
set_option maxHeartbeats 40000000 in
theorem counts_all (A : Option Addr) (n c : Nat) (kk : Int) (b1 : Bool) (hb : b1 = true) (x1 y1 y2 : Int) (m : Nat) (hm : m ≤ 1000000) (f : Nat → Int) (w : World)
    (HFa : Hid (CV 43 #[.int .i64 40, .agg #[.slice A n c]] (.bool b1) w))
    (C1 : Hid (CV 31 #[.agg #[.slice A n c]] (.tuple #[.int .i64 x1, .int .i64 y1]) w))
    (N1 : Hid (∀ wx, Below w.heap.size w wx → Calls Tryz.prog 32 #[.agg #[.slice A n c], .int .i64 kk] wx (RetNz m f y2 wx)))
    (C2 : Hid (CV 33 #[.agg #[.slice A n c]] (.tuple #[.int .i64 x1, .int .i64 y1]) w))
    (N2 : Hid (∀ wx, Below w.heap.size w wx → Calls Tryz.prog 34 #[.agg #[.slice A n c], .int .i64 kk] wx (RetNz m f y2 wx)))
    (HAw : Hid (CV 11 #[] (.bool true) w)) :
    Calls Tryz.prog 5 #[.agg #[.slice A n c], .int .i64 kk] w fun e w' => e = .returned (.bool true) ∧ Below w.heap.size w w' := by
  go_enter Tryz.func5, Tryz.ntmps5
  go_upto_region 1 with fail
  generalize hX : w.alloc _ = X
  have HX : Hid (Below w.heap.size w X) := by rw [← hX]; exact below_alloc _ _
  have KX : Hid (MBx X w.heap.size A n c) := by rw [← hX]; exact MBx.new _ _ _ _ _
  clear hX
  obtain ⟨k0, -⟩ := KX.out
  go_wp2_with fail
  clear k0
  generalize hY : X.alloc _ = Y
  have HY : Hid (Below w.heap.size w Y) := by rw [← hY]; exact Lib.hid (HX.out.trans ((below_alloc X _).mono HX.out.size))
  have KY : Hid (MBx Y w.heap.size A n c) := by rw [← hY]; exact Lib.hid (KX.out.keep (below_alloc _ _))
  obtain ⟨y0, y2⟩ := list1 hY
  clear hY HX KX
  have HLs : Hid (∀ i, i < 1 → Y.cell? ⟨X.heap.size, i, none⟩ = some (.slice ((fun _ => A) i) ((fun _ => n) i) ((fun _ => c) i))) := fun i hi => by
    obtain rfl : i = 0 := by omega
    exact y0
  have HFs : Hid (∀ i, i < 1 → CV 43 #[.int .i64 40, .agg #[.slice ((fun _ => A) i) ((fun _ => n) i) ((fun _ => c) i)]] (.bool ((fun _ => b1) i)) Y) := fun i hi => HFa.out.keep HY.out
  (with_reducible refine (lfew_any X.heap.size 1 (fun _ => A) (fun _ => n) (fun _ => c) (fun _ => b1) Y (by omega) y2 HLs HFs).mono ?_)
  rintro e w0 ⟨rfl, hB⟩
  rw [all1]
  have H0 := Lib.hid (HY.out.trans (hB.mono HY.out.size))
  have K0 := Lib.hid (KY.out.keep hB)
  clear hB HY KY y0 y2 HFa HLs HFs
  rw [hb]
  obtain ⟨k0, -⟩ := K0.out
  go_wp2_with fail
  clear k0
  (with_reducible refine (C1.out.run H0.out).mono ?_)
  rintro e w1 ⟨rfl, hB⟩
  have H1 := Lib.hid (H0.out.trans (hB.mono H0.out.size))
  have K1 := Lib.hid (K0.out.keep hB)
  clear hB H0 K0 C1
  obtain ⟨k0, -⟩ := K1.out
  go_wp2_with fail
  clear k0
  (with_reducible refine (N1.out _ H1.out).mono ?_)
  rintro e w2 ⟨A1, rfl, hL, hB⟩
  have L1 := Lib.hid hL
  clear hL
  have H2 := Lib.hid (H1.out.trans (hB.mono H1.out.size))
  have K2 := Lib.hid (K1.out.keep hB)
  clear hB H1 K1 N1
  obtain ⟨k0, -⟩ := K2.out
  go_wp2_with fail
  clear k0
  (with_reducible refine (C2.out.run H2.out).mono ?_)
  rintro e w3 ⟨rfl, hB⟩
  have L1x := Lib.hid (L1.out.keep hB)
  clear L1
  have L1 := L1x
  clear L1x
  have H3 := Lib.hid (H2.out.trans (hB.mono H2.out.size))
  have K3 := Lib.hid (K2.out.keep hB)
  clear hB H2 K2 C2
  obtain ⟨k0, -⟩ := K3.out
  go_wp2_with fail
  clear k0
  (with_reducible refine (N2.out _ H3.out).mono ?_)
  rintro e w4 ⟨A2, rfl, hL, hB⟩
  have L2 := Lib.hid hL
  clear hL
  have L1x := Lib.hid (L1.out.keep hB)
  clear L1
  have L1 := L1x
  clear L1x
  have H4 := Lib.hid (H3.out.trans (hB.mono H3.out.size))
  have K4 := Lib.hid (K3.out.keep hB)
  clear hB H3 K3 N2
  go_wp2_with fail
  (with_reducible refine (rlist_same A2 A1 m m m f w4 hm L2.out L1.out).mono ?_)
  rintro e w5 ⟨rfl, hB⟩
  have H5 := Lib.hid (H4.out.trans (hB.mono H4.out.size))
  clear hB L1 L2
  go_wp2_with fail
  (with_reducible refine (HAw.out.run H5.out).mono ?_)
  rintro e wz ⟨rfl, hBz⟩
  have CZ := Lib.hid (H5.out.trans (hBz.mono H5.out.size))
  clear hBz
  go_wp2_with fail
  go_ret
  exact ⟨rfl, CZ.out⟩


theorem Bs_63 : 9223372036854775808 < Bs ^ 5 := by decide +kernel
theorem sgnI_nn {z : Int} (h : 0 ≤ z) : decide (0 ≤ sgnI z) = true := by
  rw [decide_eq_true_eq]
  unfold sgnI
  split
  · omega
  · split <;> omega
theorem sgnI_ng {z : Int} (h : z < 0) : decide (0 ≤ sgnI z) = false := by
  rw [decide_eq_false_iff_not]
  unfold sgnI
  first
    | (rw [if_pos h]; omega)
    | (split <;> first | omega | (split <;> omega))

theorem counts_any (A : Option Addr) (n c : Nat) (kk : Int) (st : Nat → StV) (w : World) (hk1 : -9223372036854775808 ≤ kk) (hk2 : kk ≤ 9223372036854775807) (hA : Lst w A n st) (hfa : FitsM n st) (htab : Tab w) :
    Calls Tryz.prog 5 #[.agg #[.slice A n c], .int .i64 kk] w fun e w' => e = .returned (.bool true) ∧ Below w.heap.size w w' := by
  have HAw : CV 11 #[] (.bool true) w := fun wx hb => awake_any wx (htab.keep hb)
  have HFa := few_cv (c := c) hfa hA
  cases hb : fewB n st with
  | false => exact counts_dark A n c kk _ hb w HFa HAw
  | true =>
  have hs := few_szs hb
  have V1 := mv_cv (c := c) hs hA
  have V2 := rmv_cv (c := c) hs hA
  cases hM : moB n st with
  | false =>
    rw [hM] at V1 V2
    exact counts_all A n c kk _ hb 0 1 1 0 (by omega) (fun _ => 0) w HFa
      (Lib.hid fun wx hx => rcount_bad A n c wx (V2.keep hx)) (Lib.hid fun wx hx => (rnth_bad A n c kk wx (V2.keep hx)).mono fun _ _ => nz_err)
      (Lib.hid fun wx hx => mcount_bad A n c wx (V1.keep hx)) (Lib.hid fun wx hx => (mnth_bad A n c kk wx (V1.keep hx)).mono fun _ _ => nz_err) HAw
  | true =>
    rw [hM] at V1 V2
    have n40 := (moB_n hM).2
    have hP := prodN_small hM (Nat.le_refl n)
    have HNu : ∀ wx, Below w.heap.size w wx → Calls Tryz.prog 68 #[.agg #[.slice A n c]] wx (RetV (.int ((prodN (chN st) n : Nat) : Int)) wx) := fun wx hx => number_any A n c st wx hM (hA.keep hx)
    have C2 : CV 33 #[.agg #[.slice A n c]] (.tuple #[.int .i64 (cntT n st).1, .int .i64 (cntT n st).2]) w := fun wx hx => mcount_ok A n c st wx hM (hA.keep hx) (V1.keep hx) _ _ (Lib.hid rfl)
    have HS : ∀ wx u, IV wx u ((prodN (chN st) n : Nat) : Int) → Calls Tryz.prog 69 #[u] wx fun e w' => e = .returned (smallV ((prodN (chN st) n : Nat) : Int)) ∧ Below wx.heap.size wx w' := fun wx u hu => iv_small 5 hu (by omega) (by rw [Int.natAbs_natCast]; exact hP)
    have C1 : CV 31 #[.agg #[.slice A n c]] (.tuple #[.int .i64 (cntT n st).1, .int .i64 (cntT n st).2]) w := by
      intro wx hx
      by_cases g : prodN (chN st) n ≤ 1152921504606846976
      · have e1 : cntT n st = (((prodN (chN st) n : Nat) : Int), 0) := if_pos g
        have e2 : smallV ((prodN (chN st) n : Nat) : Int) = .tuple #[.int .i64 ((prodN (chN st) n : Nat) : Int), .bool true] := if_pos (by rw [Int.natAbs_natCast]; exact g)
        rw [e2] at HS
        rw [e1]
        exact rcount_ok A n c wx _ _ 0 true (V2.keep hx) (Lib.hid fun wy hy => HNu wy (hx.trans (hy.mono hx.size))) HS (Lib.hid (Or.inl rfl)) (Lib.hid rfl)
      · have e1 : cntT n st = (0, 3) := if_neg g
        have e2 : smallV ((prodN (chN st) n : Nat) : Int) = .tuple #[.int .i64 0, .bool false] := if_neg (by rw [Int.natAbs_natCast]; exact g)
        rw [e2] at HS
        rw [e1]
        exact rcount_ok A n c wx _ _ 3 false (V2.keep hx) (Lib.hid fun wy hy => HNu wy (hx.trans (hy.mono hx.size))) HS (Lib.hid (Or.inr rfl)) (Lib.hid rfl)
    by_cases hneg : kk < 0
    · exact counts_all A n c kk _ hb _ _ 6 0 (by omega) (fun _ => 0) w HFa C1
        (Lib.hid fun wx hx => (rnth_neg A n c kk wx (decide_eq_true hneg) (V2.keep hx)).mono fun _ _ => nz_err) C2
        (Lib.hid fun wx hx => (mnth_neg A n c kk wx hneg hk1 (V1.keep hx)).mono fun _ _ => nz_err) HAw
    · obtain ⟨KN, rfl⟩ := Int.eq_ofNat_of_zero_le (show 0 ≤ kk by omega)
      have hKN : KN ≤ 9223372036854775807 := by omega
      have hng : decide ((KN : Int) < 0) = false := decide_eq_false hneg
      have HO : ∀ wx, Calls Tryz.prog 70 #[.int .i64 (KN : Int)] wx (RetV (.int (KN : Int)) wx) := fun wx => iv_of _ wx hk1 hk2
      have HC : ∀ wx u u', IV wx u (KN : Int) → IV wx u' ((prodN (chN st) n : Nat) : Int) → Calls Tryz.prog 71 #[u, u'] wx (RetV (.val (.int .i64 (sgnI ((KN : Int) - ((prodN (chN st) n : Nat) : Int))))) wx) := fun wx u u' h h' =>
        iv_compare 5 h h' (by omega) (by rw [Int.natAbs_natCast]; exact Nat.lt_of_le_of_lt (Nat.le_succ_of_le hKN) Bs_63) (by rw [Int.natAbs_natCast]; exact hP)
      by_cases hlo : KN < prodN (chN st) n
      · exact counts_all A n c _ _ hb _ _ 0 n (by omega) (fun i => ((dgN (chN st) n KN i : Nat) : Int)) w HFa C1
          (Lib.hid fun wx hx => (rnth_ok A n c _ _ _ wx hng (sgnI_ng (by omega)) n40 st KN (Lib.hid ⟨rfl, hKN⟩) hM (hA.keep hx) (V2.keep hx) HO (Lib.hid fun wy hy => HNu wy (hx.trans (hy.mono hx.size))) HC).mono fun _ _ h => RetZs.nz h) C2
          (Lib.hid fun wx hx => (mnth_ok A n c KN st wx hKN hM (hA.keep hx) (V1.keep hx) hlo).mono fun _ _ h => RetZs.nz h) HAw
      · exact counts_all A n c _ _ hb _ _ 6 0 (by omega) (fun _ => 0) w HFa C1
          (Lib.hid fun wx hx => (rnth_far A n c _ _ _ wx hng (sgnI_nn (by omega)) (V2.keep hx) HO (Lib.hid fun wy hy => HNu wy (hx.trans (hy.mono hx.size))) HC).mono fun _ _ => nz_err) C2
          (Lib.hid fun wx hx => (mnth_far A n c KN st wx hKN hM (hA.keep hx) (V1.keep hx) (Nat.le_of_not_lt hlo)).mono fun _ _ => nz_err) HAw

end Go.Proofs.YtabaknkjcoibpaaGreatDoor
