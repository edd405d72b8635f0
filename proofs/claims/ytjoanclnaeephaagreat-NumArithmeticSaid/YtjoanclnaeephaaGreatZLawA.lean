/- diceboxlaw01.NumArithmetic: the walk, and the law for all numbers. -/
import Derived.Test.YtjoanclnaeephaaGreatZRefAr
import Derived.Test.YtjoanclnaeephaaGreatMPb
namespace Go.Proofs.YtjoanclnaeephaaGreat
open Go.RowKit

set_option maxRecDepth 100000 in
set_option maxHeartbeats 4000000 in
theorem arith_walk (ta la tb lb p1 p2 p0 r1 r2 r0 t1 t2 t0 v1 v2 v0 x0 m0 : Int) (va : Bool) (w : World)
    (H1 : Hid (∀ wx, Calls Tryz.prog 4 #[.agg #[.int .i64 ta, .int .i64 la], .agg #[.int .i64 tb, .int .i64 lb]] wx (Rt p1 p2 p0 wx)))
    (H2 : Hid (∀ wx, Calls Tryz.prog 5 #[.agg #[.int .i64 ta, .int .i64 la], .agg #[.int .i64 tb, .int .i64 lb]] wx (Rt p1 p2 p0 wx)))
    (H3 : Hid (∀ wx, Calls Tryz.prog 6 #[.agg #[.int .i64 ta, .int .i64 la], .agg #[.int .i64 tb, .int .i64 lb]] wx (Rt r1 r2 r0 wx)))
    (H4 : Hid (∀ wx, Calls Tryz.prog 7 #[.agg #[.int .i64 ta, .int .i64 la], .agg #[.int .i64 tb, .int .i64 lb]] wx (Rt r1 r2 r0 wx)))
    (H5 : Hid (∀ wx, Calls Tryz.prog 8 #[.agg #[.int .i64 ta, .int .i64 la], .agg #[.int .i64 tb, .int .i64 lb]] wx (Rt t1 t2 t0 wx)))
    (H6 : Hid (∀ wx, Calls Tryz.prog 9 #[.agg #[.int .i64 ta, .int .i64 la], .agg #[.int .i64 tb, .int .i64 lb]] wx (Rt t1 t2 t0 wx)))
    (H7 : Hid (∀ wx, Calls Tryz.prog 10 #[.agg #[.int .i64 ta, .int .i64 la], .agg #[.int .i64 tb, .int .i64 lb]] wx (Rt v1 v2 v0 wx)))
    (H8 : Hid (∀ wx, Calls Tryz.prog 11 #[.agg #[.int .i64 ta, .int .i64 la], .agg #[.int .i64 tb, .int .i64 lb]] wx (Rt v1 v2 v0 wx)))
    (H9 : Hid (∀ wx, Calls Tryz.prog 12 #[.agg #[.int .i64 ta, .int .i64 la], .agg #[.int .i64 tb, .int .i64 lb]] wx fun e w' => e = .returned (.tuple #[.int .i64 x0, .int .i64 m0]) ∧ Below wx.heap.size wx w'))
    (H10 : Hid (∀ wx, Calls Tryz.prog 13 #[.agg #[.int .i64 ta, .int .i64 la], .agg #[.int .i64 tb, .int .i64 lb]] wx fun e w' => e = .returned (.tuple #[.int .i64 x0, .int .i64 m0]) ∧ Below wx.heap.size wx w'))
    (HV1 : Hid (∀ wx, Calls Tryz.prog 14 #[.agg #[.int .i64 ta, .int .i64 la]] wx (RetV (.val (.bool va)) wx)))
    (HV2 : Hid (∀ wx, Calls Tryz.prog 15 #[.agg #[.int .i64 ta, .int .i64 la]] wx (RetV (.val (.bool va)) wx)))
    (HA : Hid (∀ wx, Calls Tryz.prog 16 #[] wx (RetV (.val (.bool true)) wx))) :
    Calls Tryz.prog 3 #[.agg #[.int .i64 ta, .int .i64 la], .agg #[.int .i64 tb, .int .i64 lb]] w fun e w' => e = .returned (.bool true) ∧ Below w.heap.size w w' := by
  go_enter Tryz.func3, Tryz.ntmps3
  go_upto_region 1 with fail
  generalize hX : (w.alloc (.cells #[.int .i64 ta, .int .i64 la] 23)).alloc (.cells #[.int .i64 tb, .int .i64 lb] 23) = X
  have HS : Hid (Below w.heap.size w X) := by
    subst hX
    exact ((Below.refl _ _).alloc (Nat.le_refl _) _).alloc (by simp) _
  have HX : Hid (Bxs X [(w.heap.size, ta, la), (w.heap.size + 1, tb, lb)]) := by
    subst hX
    exact Bxs.two w ta la tb lb
  clear hX
  obtain ⟨k0a, k0b, k0c, k0d, -⟩ : N2 X (w.heap.size) ta la := HX.out.1 0 _ rfl
  obtain ⟨k1a, k1b, k1c, k1d, -⟩ : N2 X (w.heap.size + 1) tb lb := HX.out.1 1 _ rfl
  go_wp2_with fail
  (with_reducible refine (H1.out _).mono ?_)
  rintro e w1 ⟨rfl, hB⟩
  clear k0a k0b k0c k0d k1a k1b k1c k1d
  have HXn := Lib.hid (HX.out.keep hB)
  have HSn := Lib.hid (stepB HS.out hB)
  clear hB HX HS
  have HX := HXn
  have HS := HSn
  clear HXn HSn
  go_upto_region 2 with fail
  have HG2 := Lib.hid HS.out.size
  generalize hY : w1.alloc (.cells #[.int .i64 p1, .int .i64 p2] 23) = Y1
  have HXn : Hid (Bxs Y1 [(w.heap.size, ta, la), (w.heap.size + 1, tb, lb), (w1.heap.size, p1, p2)]) := by
    subst hY
    exact HX.out.new p1 p2
  have HSn : Hid (Below w.heap.size w Y1) := by
    subst hY
    exact HS.out.alloc HS.out.size _
  clear hY HX HS
  have HX := HXn
  have HS := HSn
  clear HXn HSn
  obtain ⟨k0a, k0b, k0c, k0d, -⟩ : N2 Y1 (w.heap.size) ta la := HX.out.1 0 _ rfl
  obtain ⟨k1a, k1b, k1c, k1d, -⟩ : N2 Y1 (w.heap.size + 1) tb lb := HX.out.1 1 _ rfl
  go_wp2_with fail
  (with_reducible refine (H2.out _).mono ?_)
  rintro e w2 ⟨rfl, hB⟩
  clear k0a k0b k0c k0d k1a k1b k1c k1d
  have HXn := Lib.hid (HX.out.keep hB)
  have HSn := Lib.hid (stepB HS.out hB)
  clear hB HX HS
  have HX := HXn
  have HS := HSn
  clear HXn HSn
  go_upto_region 3 with fail
  have HG3 := Lib.hid HS.out.size
  generalize hY : w2.alloc (.cells #[.int .i64 p1, .int .i64 p2] 23) = Y2
  have HXn : Hid (Bxs Y2 [(w.heap.size, ta, la), (w.heap.size + 1, tb, lb), (w1.heap.size, p1, p2), (w2.heap.size, p1, p2)]) := by
    subst hY
    exact HX.out.new p1 p2
  have HSn : Hid (Below w.heap.size w Y2) := by
    subst hY
    exact HS.out.alloc HS.out.size _
  clear hY HX HS
  have HX := HXn
  have HS := HSn
  clear HXn HSn
  obtain ⟨k0a, k0b, k0c, k0d, -⟩ : N2 Y2 (w.heap.size) ta la := HX.out.1 0 _ rfl
  obtain ⟨k1a, k1b, k1c, k1d, -⟩ : N2 Y2 (w.heap.size + 1) tb lb := HX.out.1 1 _ rfl
  go_wp2_with fail
  (with_reducible refine (H3.out _).mono ?_)
  rintro e w3 ⟨rfl, hB⟩
  clear k0a k0b k0c k0d k1a k1b k1c k1d
  have HXn := Lib.hid (HX.out.keep hB)
  have HSn := Lib.hid (stepB HS.out hB)
  clear hB HX HS
  have HX := HXn
  have HS := HSn
  clear HXn HSn
  go_upto_region 4 with fail
  have HG4 := Lib.hid HS.out.size
  generalize hY : w3.alloc (.cells #[.int .i64 r1, .int .i64 r2] 23) = Y3
  have HXn : Hid (Bxs Y3 [(w.heap.size, ta, la), (w.heap.size + 1, tb, lb), (w1.heap.size, p1, p2), (w2.heap.size, p1, p2), (w3.heap.size, r1, r2)]) := by
    subst hY
    exact HX.out.new r1 r2
  have HSn : Hid (Below w.heap.size w Y3) := by
    subst hY
    exact HS.out.alloc HS.out.size _
  clear hY HX HS
  have HX := HXn
  have HS := HSn
  clear HXn HSn
  obtain ⟨k0a, k0b, k0c, k0d, -⟩ : N2 Y3 (w.heap.size) ta la := HX.out.1 0 _ rfl
  obtain ⟨k1a, k1b, k1c, k1d, -⟩ : N2 Y3 (w.heap.size + 1) tb lb := HX.out.1 1 _ rfl
  go_wp2_with fail
  (with_reducible refine (H4.out _).mono ?_)
  rintro e w4 ⟨rfl, hB⟩
  clear k0a k0b k0c k0d k1a k1b k1c k1d
  have HXn := Lib.hid (HX.out.keep hB)
  have HSn := Lib.hid (stepB HS.out hB)
  clear hB HX HS
  have HX := HXn
  have HS := HSn
  clear HXn HSn
  go_upto_region 5 with fail
  have HG5 := Lib.hid HS.out.size
  generalize hY : w4.alloc (.cells #[.int .i64 r1, .int .i64 r2] 23) = Y4
  have HXn : Hid (Bxs Y4 [(w.heap.size, ta, la), (w.heap.size + 1, tb, lb), (w1.heap.size, p1, p2), (w2.heap.size, p1, p2), (w3.heap.size, r1, r2), (w4.heap.size, r1, r2)]) := by
    subst hY
    exact HX.out.new r1 r2
  have HSn : Hid (Below w.heap.size w Y4) := by
    subst hY
    exact HS.out.alloc HS.out.size _
  clear hY HX HS
  have HX := HXn
  have HS := HSn
  clear HXn HSn
  obtain ⟨k0a, k0b, k0c, k0d, -⟩ : N2 Y4 (w.heap.size) ta la := HX.out.1 0 _ rfl
  obtain ⟨k1a, k1b, k1c, k1d, -⟩ : N2 Y4 (w.heap.size + 1) tb lb := HX.out.1 1 _ rfl
  go_wp2_with fail
  (with_reducible refine (H5.out _).mono ?_)
  rintro e w5 ⟨rfl, hB⟩
  clear k0a k0b k0c k0d k1a k1b k1c k1d
  have HXn := Lib.hid (HX.out.keep hB)
  have HSn := Lib.hid (stepB HS.out hB)
  clear hB HX HS
  have HX := HXn
  have HS := HSn
  clear HXn HSn
  go_upto_region 6 with fail
  have HG6 := Lib.hid HS.out.size
  generalize hY : w5.alloc (.cells #[.int .i64 t1, .int .i64 t2] 23) = Y5
  have HXn : Hid (Bxs Y5 [(w.heap.size, ta, la), (w.heap.size + 1, tb, lb), (w1.heap.size, p1, p2), (w2.heap.size, p1, p2), (w3.heap.size, r1, r2), (w4.heap.size, r1, r2), (w5.heap.size, t1, t2)]) := by
    subst hY
    exact HX.out.new t1 t2
  have HSn : Hid (Below w.heap.size w Y5) := by
    subst hY
    exact HS.out.alloc HS.out.size _
  clear hY HX HS
  have HX := HXn
  have HS := HSn
  clear HXn HSn
  obtain ⟨k0a, k0b, k0c, k0d, -⟩ : N2 Y5 (w.heap.size) ta la := HX.out.1 0 _ rfl
  obtain ⟨k1a, k1b, k1c, k1d, -⟩ : N2 Y5 (w.heap.size + 1) tb lb := HX.out.1 1 _ rfl
  go_wp2_with fail
  (with_reducible refine (H6.out _).mono ?_)
  rintro e w6 ⟨rfl, hB⟩
  clear k0a k0b k0c k0d k1a k1b k1c k1d
  have HXn := Lib.hid (HX.out.keep hB)
  have HSn := Lib.hid (stepB HS.out hB)
  clear hB HX HS
  have HX := HXn
  have HS := HSn
  clear HXn HSn
  go_upto_region 7 with fail
  have HG7 := Lib.hid HS.out.size
  generalize hY : w6.alloc (.cells #[.int .i64 t1, .int .i64 t2] 23) = Y6
  have HXn : Hid (Bxs Y6 [(w.heap.size, ta, la), (w.heap.size + 1, tb, lb), (w1.heap.size, p1, p2), (w2.heap.size, p1, p2), (w3.heap.size, r1, r2), (w4.heap.size, r1, r2), (w5.heap.size, t1, t2), (w6.heap.size, t1, t2)]) := by
    subst hY
    exact HX.out.new t1 t2
  have HSn : Hid (Below w.heap.size w Y6) := by
    subst hY
    exact HS.out.alloc HS.out.size _
  clear hY HX HS
  have HX := HXn
  have HS := HSn
  clear HXn HSn
  obtain ⟨k0a, k0b, k0c, k0d, -⟩ : N2 Y6 (w.heap.size) ta la := HX.out.1 0 _ rfl
  obtain ⟨k1a, k1b, k1c, k1d, -⟩ : N2 Y6 (w.heap.size + 1) tb lb := HX.out.1 1 _ rfl
  go_wp2_with fail
  (with_reducible refine (H7.out _).mono ?_)
  rintro e w7 ⟨rfl, hB⟩
  clear k0a k0b k0c k0d k1a k1b k1c k1d
  have HXn := Lib.hid (HX.out.keep hB)
  have HSn := Lib.hid (stepB HS.out hB)
  clear hB HX HS
  have HX := HXn
  have HS := HSn
  clear HXn HSn
  go_upto_region 8 with fail
  have HG8 := Lib.hid HS.out.size
  generalize hY : w7.alloc (.cells #[.int .i64 v1, .int .i64 v2] 23) = Y7
  have HXn : Hid (Bxs Y7 [(w.heap.size, ta, la), (w.heap.size + 1, tb, lb), (w1.heap.size, p1, p2), (w2.heap.size, p1, p2), (w3.heap.size, r1, r2), (w4.heap.size, r1, r2), (w5.heap.size, t1, t2), (w6.heap.size, t1, t2), (w7.heap.size, v1, v2)]) := by
    subst hY
    exact HX.out.new v1 v2
  have HSn : Hid (Below w.heap.size w Y7) := by
    subst hY
    exact HS.out.alloc HS.out.size _
  clear hY HX HS
  have HX := HXn
  have HS := HSn
  clear HXn HSn
  obtain ⟨k0a, k0b, k0c, k0d, -⟩ : N2 Y7 (w.heap.size) ta la := HX.out.1 0 _ rfl
  obtain ⟨k1a, k1b, k1c, k1d, -⟩ : N2 Y7 (w.heap.size + 1) tb lb := HX.out.1 1 _ rfl
  go_wp2_with fail
  (with_reducible refine (H8.out _).mono ?_)
  rintro e w8 ⟨rfl, hB⟩
  clear k0a k0b k0c k0d k1a k1b k1c k1d
  have HXn := Lib.hid (HX.out.keep hB)
  have HSn := Lib.hid (stepB HS.out hB)
  clear hB HX HS
  have HX := HXn
  have HS := HSn
  clear HXn HSn
  go_upto_region 9 with fail
  have HG9 := Lib.hid HS.out.size
  generalize hY : w8.alloc (.cells #[.int .i64 v1, .int .i64 v2] 23) = Y8
  have HXn : Hid (Bxs Y8 [(w.heap.size, ta, la), (w.heap.size + 1, tb, lb), (w1.heap.size, p1, p2), (w2.heap.size, p1, p2), (w3.heap.size, r1, r2), (w4.heap.size, r1, r2), (w5.heap.size, t1, t2), (w6.heap.size, t1, t2), (w7.heap.size, v1, v2), (w8.heap.size, v1, v2)]) := by
    subst hY
    exact HX.out.new v1 v2
  have HSn : Hid (Below w.heap.size w Y8) := by
    subst hY
    exact HS.out.alloc HS.out.size _
  clear hY HX HS
  have HX := HXn
  have HS := HSn
  clear HXn HSn
  obtain ⟨k0a, k0b, k0c, k0d, -⟩ : N2 Y8 (w.heap.size) ta la := HX.out.1 0 _ rfl
  obtain ⟨k1a, k1b, k1c, k1d, -⟩ : N2 Y8 (w.heap.size + 1) tb lb := HX.out.1 1 _ rfl
  go_wp2_with fail
  (with_reducible refine (H9.out _).mono ?_)
  rintro e w9 ⟨rfl, hB⟩
  clear k0a k0b k0c k0d k1a k1b k1c k1d
  have HXn := Lib.hid (HX.out.keep hB)
  have HSn := Lib.hid (stepB HS.out hB)
  clear hB HX HS
  have HX := HXn
  have HS := HSn
  clear HXn HSn
  go_upto_region 10 with fail
  obtain ⟨k0a, k0b, k0c, k0d, -⟩ : N2 w9 (w.heap.size) ta la := HX.out.1 0 _ rfl
  obtain ⟨k1a, k1b, k1c, k1d, -⟩ : N2 w9 (w.heap.size + 1) tb lb := HX.out.1 1 _ rfl
  go_wp2_with fail
  (with_reducible refine (H10.out _).mono ?_)
  rintro e w10 ⟨rfl, hB⟩
  clear k0a k0b k0c k0d k1a k1b k1c k1d
  have HXn := Lib.hid (HX.out.keep hB)
  have HSn := Lib.hid (stepB HS.out hB)
  clear hB HX HS
  have HX := HXn
  have HS := HSn
  clear HXn HSn
  go_upto_region 11 with fail
  refine wp_region_flow 59 [85, 86, 87, 88, 89, 90, 91, 92, 93, 94, 95, 96, 97, 98, 99, 100, 101, 102, 103, 104, 105, 106, 107, 108, 109, 110, 111, 112, 113, 114, 115, 116, 117, 118, 119, 120, 121, 122, 123, 124, 125, 126, 127, 128, 129, 130, 131, 132, 133, 134, 135, 136, 137, 138, 139, 140, 141, 142, 4] (fun i => if i = 58 then 4 else 85 + i) (fun wx => Below w.heap.size w wx ∧ Bxs wx [(w.heap.size, ta, la), (w.heap.size + 1, tb, lb), (w1.heap.size, p1, p2), (w2.heap.size, p1, p2), (w3.heap.size, r1, r2), (w4.heap.size, r1, r2), (w5.heap.size, t1, t2), (w6.heap.size, t1, t2), (w7.heap.size, v1, v2), (w8.heap.size, v1, v2)]) (Spl [.val (.agg #[.int .i64 ta, .int .i64 la]), .val (.bool va), .val (.agg #[.int .i64 ta, .int .i64 la]), .val (.bool va), .val (.bool true), .val (.bool true), .val (.agg #[.int .i64 p1, .int .i64 p2]), .val (.agg #[.int .i64 p1, .int .i64 p2]), .val (.bool true), .val (.bool true), .val (.bool true), .val (.int .i64 p0), .val (.int .i64 p0), .val (.bool true), .val (.bool true), .val (.bool true), .val (.agg #[.int .i64 r1, .int .i64 r2]), .val (.agg #[.int .i64 r1, .int .i64 r2]), .val (.bool true), .val (.bool true), .val (.bool true), .val (.int .i64 r0), .val (.int .i64 r0), .val (.bool true), .val (.bool true), .val (.bool true), .val (.agg #[.int .i64 t1, .int .i64 t2]), .val (.agg #[.int .i64 t1, .int .i64 t2]), .val (.bool true), .val (.bool true), .val (.bool true), .val (.int .i64 t0), .val (.int .i64 t0), .val (.bool true), .val (.bool true), .val (.bool true), .val (.agg #[.int .i64 v1, .int .i64 v2]), .val (.agg #[.int .i64 v1, .int .i64 v2]), .val (.bool true), .val (.bool true), .val (.bool true), .val (.int .i64 v0), .val (.int .i64 v0), .val (.bool true), .val (.bool true), .val (.bool true), .val (.int .i64 x0), .val (.int .i64 x0), .val (.bool true), .val (.bool true), .val (.bool true), .val (.int .i64 m0), .val (.int .i64 m0), .val (.bool true), .val (.bool true), .val (.bool true), .val (.bool true), .val (.bool true), .val (.bool true)]) (by kernel_rfl) (by kernel_rfl) (by kernel_rfl) (by kernel_rfl) (fun i j hi hj h => by have h : (if i = 58 then 4 else 85 + i) = (if j = 58 then 4 else 85 + j) := h; split at h <;> split at h <;> omega) (by decide) (fun _ _ h hb => ⟨h.1.trans (hb.mono h.1.size), h.2.keep hb⟩) Spl.keep ?_ ?_ ?_
  · exact ⟨Below.drew HS.out, HX.out⟩
  · intro i v wx o T' K ho hF hdep hin hout hK
    have hi : i < 59 := (Array.getElem?_eq_some_iff.1 ho).1
    have q85 := hin 85 (by decide)
    have q86 := hin 86 (by decide)
    have q87 := hin 87 (by decide)
    have q88 := hin 88 (by decide)
    have q89 := hin 89 (by decide)
    have q90 := hin 90 (by decide)
    have q91 := hin 91 (by decide)
    have q92 := hin 92 (by decide)
    have q93 := hin 93 (by decide)
    have q94 := hin 94 (by decide)
    have q95 := hin 95 (by decide)
    have q96 := hin 96 (by decide)
    have q97 := hin 97 (by decide)
    have q98 := hin 98 (by decide)
    have q99 := hin 99 (by decide)
    have q100 := hin 100 (by decide)
    have q101 := hin 101 (by decide)
    have q102 := hin 102 (by decide)
    have q103 := hin 103 (by decide)
    have q104 := hin 104 (by decide)
    have q105 := hin 105 (by decide)
    have q106 := hin 106 (by decide)
    have q107 := hin 107 (by decide)
    have q108 := hin 108 (by decide)
    have q109 := hin 109 (by decide)
    have q110 := hin 110 (by decide)
    have q111 := hin 111 (by decide)
    have q112 := hin 112 (by decide)
    have q113 := hin 113 (by decide)
    have q114 := hin 114 (by decide)
    have q115 := hin 115 (by decide)
    have q116 := hin 116 (by decide)
    have q117 := hin 117 (by decide)
    have q118 := hin 118 (by decide)
    have q119 := hin 119 (by decide)
    have q120 := hin 120 (by decide)
    have q121 := hin 121 (by decide)
    have q122 := hin 122 (by decide)
    have q123 := hin 123 (by decide)
    have q124 := hin 124 (by decide)
    have q125 := hin 125 (by decide)
    have q126 := hin 126 (by decide)
    have q127 := hin 127 (by decide)
    have q128 := hin 128 (by decide)
    have q129 := hin 129 (by decide)
    have q130 := hin 130 (by decide)
    have q131 := hin 131 (by decide)
    have q132 := hin 132 (by decide)
    have q133 := hin 133 (by decide)
    have q134 := hin 134 (by decide)
    have q135 := hin 135 (by decide)
    have q136 := hin 136 (by decide)
    have q137 := hin 137 (by decide)
    have q138 := hin 138 (by decide)
    have q139 := hin 139 (by decide)
    have q140 := hin 140 (by decide)
    have q141 := hin 141 (by decide)
    have q142 := hin 142 (by decide)
    have q4 := hin 4 (by decide)
    have sl2 : T'[2]? = some (.pointer (some ⟨w.heap.size, 0, none⟩)) := (hout 2 (by decide)).trans rfl
    have sl5 : T'[5]? = some (.pointer (some ⟨w1.heap.size, 0, none⟩)) := (hout 5 (by decide)).trans rfl
    have sl6 : T'[6]? = some (.int .i64 p0) := (hout 6 (by decide)).trans rfl
    have sl7 : T'[7]? = some (.pointer (some ⟨w2.heap.size, 0, none⟩)) := (hout 7 (by decide)).trans rfl
    have sl8 : T'[8]? = some (.int .i64 p0) := (hout 8 (by decide)).trans rfl
    have sl9 : T'[9]? = some (.pointer (some ⟨w3.heap.size, 0, none⟩)) := (hout 9 (by decide)).trans rfl
    have sl10 : T'[10]? = some (.int .i64 r0) := (hout 10 (by decide)).trans rfl
    have sl11 : T'[11]? = some (.pointer (some ⟨w4.heap.size, 0, none⟩)) := (hout 11 (by decide)).trans rfl
    have sl12 : T'[12]? = some (.int .i64 r0) := (hout 12 (by decide)).trans rfl
    have sl13 : T'[13]? = some (.pointer (some ⟨w5.heap.size, 0, none⟩)) := (hout 13 (by decide)).trans rfl
    have sl14 : T'[14]? = some (.int .i64 t0) := (hout 14 (by decide)).trans rfl
    have sl15 : T'[15]? = some (.pointer (some ⟨w6.heap.size, 0, none⟩)) := (hout 15 (by decide)).trans rfl
    have sl16 : T'[16]? = some (.int .i64 t0) := (hout 16 (by decide)).trans rfl
    have sl17 : T'[17]? = some (.pointer (some ⟨w7.heap.size, 0, none⟩)) := (hout 17 (by decide)).trans rfl
    have sl18 : T'[18]? = some (.int .i64 v0) := (hout 18 (by decide)).trans rfl
    have sl19 : T'[19]? = some (.pointer (some ⟨w8.heap.size, 0, none⟩)) := (hout 19 (by decide)).trans rfl
    have sl20 : T'[20]? = some (.int .i64 v0) := (hout 20 (by decide)).trans rfl
    have sl21 : T'[21]? = some (.int .i64 x0) := (hout 21 (by decide)).trans rfl
    have sl22 : T'[22]? = some (.int .i64 m0) := (hout 22 (by decide)).trans rfl
    have sl23 : T'[23]? = some (.int .i64 x0) := (hout 23 (by decide)).trans rfl
    have sl24 : T'[24]? = some (.int .i64 m0) := (hout 24 (by decide)).trans rfl
    clear hin hout
    have HF := Lib.hid hF
    have HD := Lib.hid hdep
    clear hF hdep
    rcases (by omega : i = 0 ∨ i = 1 ∨ i = 2 ∨ i = 3 ∨ i = 4 ∨ i = 5 ∨ i = 6 ∨ i = 7 ∨ i = 8 ∨ i = 9 ∨ i = 10 ∨ i = 11 ∨ i = 12 ∨ i = 13 ∨ i = 14 ∨ i = 15 ∨ i = 16 ∨ i = 17 ∨ i = 18 ∨ i = 19 ∨ i = 20 ∨ i = 21 ∨ i = 22 ∨ i = 23 ∨ i = 24 ∨ i = 25 ∨ i = 26 ∨ i = 27 ∨ i = 28 ∨ i = 29 ∨ i = 30 ∨ i = 31 ∨ i = 32 ∨ i = 33 ∨ i = 34 ∨ i = 35 ∨ i = 36 ∨ i = 37 ∨ i = 38 ∨ i = 39 ∨ i = 40 ∨ i = 41 ∨ i = 42 ∨ i = 43 ∨ i = 44 ∨ i = 45 ∨ i = 46 ∨ i = 47 ∨ i = 48 ∨ i = 49 ∨ i = 50 ∨ i = 51 ∨ i = 52 ∨ i = 53 ∨ i = 54 ∨ i = 55 ∨ i = 56 ∨ i = 57 ∨ i = 58) with rfl | rfl | rfl | rfl | rfl | rfl | rfl | rfl | rfl | rfl | rfl | rfl | rfl | rfl | rfl | rfl | rfl | rfl | rfl | rfl | rfl | rfl | rfl | rfl | rfl | rfl | rfl | rfl | rfl | rfl | rfl | rfl | rfl | rfl | rfl | rfl | rfl | rfl | rfl | rfl | rfl | rfl | rfl | rfl | rfl | rfl | rfl | rfl | rfl | rfl | rfl | rfl | rfl | rfl | rfl | rfl | rfl | rfl | rfl
    · obtain rfl := Option.some.inj ho
      obtain ⟨k0, k1, -⟩ : N2 wx (w.heap.size) ta la := HF.out.2.1 0 _ rfl
      have hP := (rfl : Value.agg #[.int .i64 ta, .int .i64 la] = .agg #[.int .i64 ta, .int .i64 la])
      clear q85 q86 q87 q88 q89 q90 q91 q92 q93 q94 q95 q96 q97 q98 q99 q100 q101 q102 q103 q104 q105 q106 q107 q108 q109 q110 q111 q112 q113 q114 q115 q116 q117 q118 q119 q120 q121 q122 q123 q124 q125 q126 q127 q128 q129 q130 q131 q132 q133 q134 q135 q136 q137 q138 q139 q140 q141 q142 q4 sl5 sl6 sl7 sl8 sl9 sl10 sl11 sl12 sl13 sl14 sl15 sl16 sl17 sl18 sl19 sl20 sl21 sl22 sl23 sl24 ho hi
      go_simp
      exact hK _ _ (Below.refl _ _) hP
    · obtain rfl := Option.some.inj ho
      have e0 : v 85 = (.agg #[.int .i64 ta, .int .i64 la]) := HD.out ⟨0, .data⟩ (by simp) rfl
      rw [e0] at q85
      clear q86 q87 q88 q89 q90 q91 q92 q93 q94 q95 q96 q97 q98 q99 q100 q101 q102 q103 q104 q105 q106 q107 q108 q109 q110 q111 q112 q113 q114 q115 q116 q117 q118 q119 q120 q121 q122 q123 q124 q125 q126 q127 q128 q129 q130 q131 q132 q133 q134 q135 q136 q137 q138 q139 q140 q141 q142 q4 sl2 sl5 sl6 sl7 sl8 sl9 sl10 sl11 sl12 sl13 sl14 sl15 sl16 sl17 sl18 sl19 sl20 sl21 sl22 sl23 sl24 ho hi
      go_simp
      (with_reducible refine (HV1.out _).mono ?_)
      rintro e w2 ⟨u, rfl, hu, hB⟩
      exact hK _ _ hB hu
    · obtain rfl := Option.some.inj ho
      obtain ⟨k0, k1, -⟩ : N2 wx (w.heap.size) ta la := HF.out.2.1 0 _ rfl
      have hP := (rfl : Value.agg #[.int .i64 ta, .int .i64 la] = .agg #[.int .i64 ta, .int .i64 la])
      clear q85 q86 q87 q88 q89 q90 q91 q92 q93 q94 q95 q96 q97 q98 q99 q100 q101 q102 q103 q104 q105 q106 q107 q108 q109 q110 q111 q112 q113 q114 q115 q116 q117 q118 q119 q120 q121 q122 q123 q124 q125 q126 q127 q128 q129 q130 q131 q132 q133 q134 q135 q136 q137 q138 q139 q140 q141 q142 q4 sl5 sl6 sl7 sl8 sl9 sl10 sl11 sl12 sl13 sl14 sl15 sl16 sl17 sl18 sl19 sl20 sl21 sl22 sl23 sl24 ho hi
      go_simp
      exact hK _ _ (Below.refl _ _) hP
    · obtain rfl := Option.some.inj ho
      have e0 : v 87 = (.agg #[.int .i64 ta, .int .i64 la]) := HD.out ⟨2, .data⟩ (by simp) rfl
      rw [e0] at q87
      clear q85 q86 q88 q89 q90 q91 q92 q93 q94 q95 q96 q97 q98 q99 q100 q101 q102 q103 q104 q105 q106 q107 q108 q109 q110 q111 q112 q113 q114 q115 q116 q117 q118 q119 q120 q121 q122 q123 q124 q125 q126 q127 q128 q129 q130 q131 q132 q133 q134 q135 q136 q137 q138 q139 q140 q141 q142 q4 sl2 sl5 sl6 sl7 sl8 sl9 sl10 sl11 sl12 sl13 sl14 sl15 sl16 sl17 sl18 sl19 sl20 sl21 sl22 sl23 sl24 ho hi
      go_simp
      (with_reducible refine (HV2.out _).mono ?_)
      rintro e w2 ⟨u, rfl, hu, hB⟩
      exact hK _ _ hB hu
    · obtain rfl := Option.some.inj ho
      have e0 : v 86 = (.bool va) := HD.out ⟨1, .data⟩ (by simp) rfl
      rw [e0] at q86
      have e1 : v 88 = (.bool va) := HD.out ⟨3, .data⟩ (by simp) rfl
      rw [e1] at q88
      clear q85 q87 q89 q90 q91 q92 q93 q94 q95 q96 q97 q98 q99 q100 q101 q102 q103 q104 q105 q106 q107 q108 q109 q110 q111 q112 q113 q114 q115 q116 q117 q118 q119 q120 q121 q122 q123 q124 q125 q126 q127 q128 q129 q130 q131 q132 q133 q134 q135 q136 q137 q138 q139 q140 q141 q142 q4 sl2 sl5 sl6 sl7 sl8 sl9 sl10 sl11 sl12 sl13 sl14 sl15 sl16 sl17 sl18 sl19 sl20 sl21 sl22 sl23 sl24 ho hi
      go_simp
      try rw [beq_self_eq_true]
      exact hK _ _ (Below.refl _ _) rfl
    · obtain rfl := Option.some.inj ho
      have e0 : v 89 = (.bool true) := HD.out ⟨4, .data⟩ (by simp) rfl
      rw [e0] at q89
      clear q85 q86 q87 q88 q90 q91 q92 q93 q94 q95 q96 q97 q98 q99 q100 q101 q102 q103 q104 q105 q106 q107 q108 q109 q110 q111 q112 q113 q114 q115 q116 q117 q118 q119 q120 q121 q122 q123 q124 q125 q126 q127 q128 q129 q130 q131 q132 q133 q134 q135 q136 q137 q138 q139 q140 q141 q142 q4 sl2 sl5 sl6 sl7 sl8 sl9 sl10 sl11 sl12 sl13 sl14 sl15 sl16 sl17 sl18 sl19 sl20 sl21 sl22 sl23 sl24 ho hi
      go_simp
      exact hK _ _ (Below.refl _ _) rfl
    · obtain rfl := Option.some.inj ho
      have eg : v 90 = (.bool true) := HD.out ⟨5, .guard⟩ (by simp) rfl
      rw [eg] at q90
      obtain ⟨k0, k1, -⟩ : N2 wx (w1.heap.size) p1 p2 := HF.out.2.1 2 _ rfl
      have hP := (rfl : Value.agg #[.int .i64 p1, .int .i64 p2] = .agg #[.int .i64 p1, .int .i64 p2])
      clear q85 q86 q87 q88 q89 q91 q92 q93 q94 q95 q96 q97 q98 q99 q100 q101 q102 q103 q104 q105 q106 q107 q108 q109 q110 q111 q112 q113 q114 q115 q116 q117 q118 q119 q120 q121 q122 q123 q124 q125 q126 q127 q128 q129 q130 q131 q132 q133 q134 q135 q136 q137 q138 q139 q140 q141 q142 q4 sl2 sl6 sl7 sl8 sl9 sl10 sl11 sl12 sl13 sl14 sl15 sl16 sl17 sl18 sl19 sl20 sl21 sl22 sl23 sl24 ho hi
      go_simp
      exact hK _ _ (Below.refl _ _) hP
    · obtain rfl := Option.some.inj ho
      have eg : v 90 = (.bool true) := HD.out ⟨5, .guard⟩ (by simp) rfl
      rw [eg] at q90
      obtain ⟨k0, k1, -⟩ : N2 wx (w2.heap.size) p1 p2 := HF.out.2.1 3 _ rfl
      have hP := (rfl : Value.agg #[.int .i64 p1, .int .i64 p2] = .agg #[.int .i64 p1, .int .i64 p2])
      clear q85 q86 q87 q88 q89 q91 q92 q93 q94 q95 q96 q97 q98 q99 q100 q101 q102 q103 q104 q105 q106 q107 q108 q109 q110 q111 q112 q113 q114 q115 q116 q117 q118 q119 q120 q121 q122 q123 q124 q125 q126 q127 q128 q129 q130 q131 q132 q133 q134 q135 q136 q137 q138 q139 q140 q141 q142 q4 sl2 sl5 sl6 sl8 sl9 sl10 sl11 sl12 sl13 sl14 sl15 sl16 sl17 sl18 sl19 sl20 sl21 sl22 sl23 sl24 ho hi
      go_simp
      exact hK _ _ (Below.refl _ _) hP
    · obtain rfl := Option.some.inj ho
      have eg : v 90 = (.bool true) := HD.out ⟨5, .guard⟩ (by simp) rfl
      rw [eg] at q90
      have e0 : v 91 = (.agg #[.int .i64 p1, .int .i64 p2]) := HD.out ⟨6, .data⟩ (by simp) rfl
      rw [e0] at q91
      have e1 : v 92 = (.agg #[.int .i64 p1, .int .i64 p2]) := HD.out ⟨7, .data⟩ (by simp) rfl
      rw [e1] at q92
      clear q85 q86 q87 q88 q89 q93 q94 q95 q96 q97 q98 q99 q100 q101 q102 q103 q104 q105 q106 q107 q108 q109 q110 q111 q112 q113 q114 q115 q116 q117 q118 q119 q120 q121 q122 q123 q124 q125 q126 q127 q128 q129 q130 q131 q132 q133 q134 q135 q136 q137 q138 q139 q140 q141 q142 q4 sl2 sl5 sl6 sl7 sl8 sl9 sl10 sl11 sl12 sl13 sl14 sl15 sl16 sl17 sl18 sl19 sl20 sl21 sl22 sl23 sl24 ho hi
      go_simp
      try rw [beq_self_eq_true]
      try simp only [beq_self_eq_true, Bool.and_self, Bool.true_and, Bool.and_true]
      exact hK _ _ (Below.refl _ _) rfl
    · obtain rfl := Option.some.inj ho
      have e0 : v 90 = (.bool true) := HD.out ⟨5, .data⟩ (by simp) rfl
      rw [e0] at q90
      have e1 : v 93 = (.bool true) := HD.out ⟨8, .data⟩ (by simp) rfl
      rw [e1] at q93
      clear q85 q86 q87 q88 q89 q91 q92 q94 q95 q96 q97 q98 q99 q100 q101 q102 q103 q104 q105 q106 q107 q108 q109 q110 q111 q112 q113 q114 q115 q116 q117 q118 q119 q120 q121 q122 q123 q124 q125 q126 q127 q128 q129 q130 q131 q132 q133 q134 q135 q136 q137 q138 q139 q140 q141 q142 q4 sl2 sl5 sl6 sl7 sl8 sl9 sl10 sl11 sl12 sl13 sl14 sl15 sl16 sl17 sl18 sl19 sl20 sl21 sl22 sl23 sl24 ho hi
      go_simp
      exact hK _ _ (Below.refl _ _) rfl
    · obtain rfl := Option.some.inj ho
      have e0 : v 94 = (.bool true) := HD.out ⟨9, .data⟩ (by simp) rfl
      rw [e0] at q94
      clear q85 q86 q87 q88 q89 q90 q91 q92 q93 q95 q96 q97 q98 q99 q100 q101 q102 q103 q104 q105 q106 q107 q108 q109 q110 q111 q112 q113 q114 q115 q116 q117 q118 q119 q120 q121 q122 q123 q124 q125 q126 q127 q128 q129 q130 q131 q132 q133 q134 q135 q136 q137 q138 q139 q140 q141 q142 q4 sl2 sl5 sl6 sl7 sl8 sl9 sl10 sl11 sl12 sl13 sl14 sl15 sl16 sl17 sl18 sl19 sl20 sl21 sl22 sl23 sl24 ho hi
      go_simp
      exact hK _ _ (Below.refl _ _) rfl
    · obtain rfl := Option.some.inj ho
      have eg : v 95 = (.bool true) := HD.out ⟨10, .guard⟩ (by simp) rfl
      rw [eg] at q95
      clear q85 q86 q87 q88 q89 q90 q91 q92 q93 q94 q96 q97 q98 q99 q100 q101 q102 q103 q104 q105 q106 q107 q108 q109 q110 q111 q112 q113 q114 q115 q116 q117 q118 q119 q120 q121 q122 q123 q124 q125 q126 q127 q128 q129 q130 q131 q132 q133 q134 q135 q136 q137 q138 q139 q140 q141 q142 q4 sl2 sl5 sl7 sl8 sl9 sl10 sl11 sl12 sl13 sl14 sl15 sl16 sl17 sl18 sl19 sl20 sl21 sl22 sl23 sl24 ho hi
      go_simp
      exact hK _ _ (Below.refl _ _) rfl
    · obtain rfl := Option.some.inj ho
      have eg : v 95 = (.bool true) := HD.out ⟨10, .guard⟩ (by simp) rfl
      rw [eg] at q95
      clear q85 q86 q87 q88 q89 q90 q91 q92 q93 q94 q96 q97 q98 q99 q100 q101 q102 q103 q104 q105 q106 q107 q108 q109 q110 q111 q112 q113 q114 q115 q116 q117 q118 q119 q120 q121 q122 q123 q124 q125 q126 q127 q128 q129 q130 q131 q132 q133 q134 q135 q136 q137 q138 q139 q140 q141 q142 q4 sl2 sl5 sl6 sl7 sl9 sl10 sl11 sl12 sl13 sl14 sl15 sl16 sl17 sl18 sl19 sl20 sl21 sl22 sl23 sl24 ho hi
      go_simp
      exact hK _ _ (Below.refl _ _) rfl
    · obtain rfl := Option.some.inj ho
      have eg : v 95 = (.bool true) := HD.out ⟨10, .guard⟩ (by simp) rfl
      rw [eg] at q95
      have e0 : v 96 = (.int .i64 p0) := HD.out ⟨11, .data⟩ (by simp) rfl
      rw [e0] at q96
      have e1 : v 97 = (.int .i64 p0) := HD.out ⟨12, .data⟩ (by simp) rfl
      rw [e1] at q97
      clear q85 q86 q87 q88 q89 q90 q91 q92 q93 q94 q98 q99 q100 q101 q102 q103 q104 q105 q106 q107 q108 q109 q110 q111 q112 q113 q114 q115 q116 q117 q118 q119 q120 q121 q122 q123 q124 q125 q126 q127 q128 q129 q130 q131 q132 q133 q134 q135 q136 q137 q138 q139 q140 q141 q142 q4 sl2 sl5 sl6 sl7 sl8 sl9 sl10 sl11 sl12 sl13 sl14 sl15 sl16 sl17 sl18 sl19 sl20 sl21 sl22 sl23 sl24 ho hi
      go_simp
      try rw [beq_self_eq_true]
      try simp only [beq_self_eq_true, Bool.and_self, Bool.true_and, Bool.and_true]
      exact hK _ _ (Below.refl _ _) rfl
    · obtain rfl := Option.some.inj ho
      have e0 : v 95 = (.bool true) := HD.out ⟨10, .data⟩ (by simp) rfl
      rw [e0] at q95
      have e1 : v 98 = (.bool true) := HD.out ⟨13, .data⟩ (by simp) rfl
      rw [e1] at q98
      clear q85 q86 q87 q88 q89 q90 q91 q92 q93 q94 q96 q97 q99 q100 q101 q102 q103 q104 q105 q106 q107 q108 q109 q110 q111 q112 q113 q114 q115 q116 q117 q118 q119 q120 q121 q122 q123 q124 q125 q126 q127 q128 q129 q130 q131 q132 q133 q134 q135 q136 q137 q138 q139 q140 q141 q142 q4 sl2 sl5 sl6 sl7 sl8 sl9 sl10 sl11 sl12 sl13 sl14 sl15 sl16 sl17 sl18 sl19 sl20 sl21 sl22 sl23 sl24 ho hi
      go_simp
      exact hK _ _ (Below.refl _ _) rfl
    · obtain rfl := Option.some.inj ho
      have e0 : v 99 = (.bool true) := HD.out ⟨14, .data⟩ (by simp) rfl
      rw [e0] at q99
      clear q85 q86 q87 q88 q89 q90 q91 q92 q93 q94 q95 q96 q97 q98 q100 q101 q102 q103 q104 q105 q106 q107 q108 q109 q110 q111 q112 q113 q114 q115 q116 q117 q118 q119 q120 q121 q122 q123 q124 q125 q126 q127 q128 q129 q130 q131 q132 q133 q134 q135 q136 q137 q138 q139 q140 q141 q142 q4 sl2 sl5 sl6 sl7 sl8 sl9 sl10 sl11 sl12 sl13 sl14 sl15 sl16 sl17 sl18 sl19 sl20 sl21 sl22 sl23 sl24 ho hi
      go_simp
      exact hK _ _ (Below.refl _ _) rfl
    · obtain rfl := Option.some.inj ho
      have eg : v 100 = (.bool true) := HD.out ⟨15, .guard⟩ (by simp) rfl
      rw [eg] at q100
      obtain ⟨k0, k1, -⟩ : N2 wx (w3.heap.size) r1 r2 := HF.out.2.1 4 _ rfl
      have hP := (rfl : Value.agg #[.int .i64 r1, .int .i64 r2] = .agg #[.int .i64 r1, .int .i64 r2])
      clear q85 q86 q87 q88 q89 q90 q91 q92 q93 q94 q95 q96 q97 q98 q99 q101 q102 q103 q104 q105 q106 q107 q108 q109 q110 q111 q112 q113 q114 q115 q116 q117 q118 q119 q120 q121 q122 q123 q124 q125 q126 q127 q128 q129 q130 q131 q132 q133 q134 q135 q136 q137 q138 q139 q140 q141 q142 q4 sl2 sl5 sl6 sl7 sl8 sl10 sl11 sl12 sl13 sl14 sl15 sl16 sl17 sl18 sl19 sl20 sl21 sl22 sl23 sl24 ho hi
      go_simp
      exact hK _ _ (Below.refl _ _) hP
    · obtain rfl := Option.some.inj ho
      have eg : v 100 = (.bool true) := HD.out ⟨15, .guard⟩ (by simp) rfl
      rw [eg] at q100
      obtain ⟨k0, k1, -⟩ : N2 wx (w4.heap.size) r1 r2 := HF.out.2.1 5 _ rfl
      have hP := (rfl : Value.agg #[.int .i64 r1, .int .i64 r2] = .agg #[.int .i64 r1, .int .i64 r2])
      clear q85 q86 q87 q88 q89 q90 q91 q92 q93 q94 q95 q96 q97 q98 q99 q101 q102 q103 q104 q105 q106 q107 q108 q109 q110 q111 q112 q113 q114 q115 q116 q117 q118 q119 q120 q121 q122 q123 q124 q125 q126 q127 q128 q129 q130 q131 q132 q133 q134 q135 q136 q137 q138 q139 q140 q141 q142 q4 sl2 sl5 sl6 sl7 sl8 sl9 sl10 sl12 sl13 sl14 sl15 sl16 sl17 sl18 sl19 sl20 sl21 sl22 sl23 sl24 ho hi
      go_simp
      exact hK _ _ (Below.refl _ _) hP
    · obtain rfl := Option.some.inj ho
      have eg : v 100 = (.bool true) := HD.out ⟨15, .guard⟩ (by simp) rfl
      rw [eg] at q100
      have e0 : v 101 = (.agg #[.int .i64 r1, .int .i64 r2]) := HD.out ⟨16, .data⟩ (by simp) rfl
      rw [e0] at q101
      have e1 : v 102 = (.agg #[.int .i64 r1, .int .i64 r2]) := HD.out ⟨17, .data⟩ (by simp) rfl
      rw [e1] at q102
      clear q85 q86 q87 q88 q89 q90 q91 q92 q93 q94 q95 q96 q97 q98 q99 q103 q104 q105 q106 q107 q108 q109 q110 q111 q112 q113 q114 q115 q116 q117 q118 q119 q120 q121 q122 q123 q124 q125 q126 q127 q128 q129 q130 q131 q132 q133 q134 q135 q136 q137 q138 q139 q140 q141 q142 q4 sl2 sl5 sl6 sl7 sl8 sl9 sl10 sl11 sl12 sl13 sl14 sl15 sl16 sl17 sl18 sl19 sl20 sl21 sl22 sl23 sl24 ho hi
      go_simp
      try rw [beq_self_eq_true]
      try simp only [beq_self_eq_true, Bool.and_self, Bool.true_and, Bool.and_true]
      exact hK _ _ (Below.refl _ _) rfl
    · obtain rfl := Option.some.inj ho
      have e0 : v 100 = (.bool true) := HD.out ⟨15, .data⟩ (by simp) rfl
      rw [e0] at q100
      have e1 : v 103 = (.bool true) := HD.out ⟨18, .data⟩ (by simp) rfl
      rw [e1] at q103
      clear q85 q86 q87 q88 q89 q90 q91 q92 q93 q94 q95 q96 q97 q98 q99 q101 q102 q104 q105 q106 q107 q108 q109 q110 q111 q112 q113 q114 q115 q116 q117 q118 q119 q120 q121 q122 q123 q124 q125 q126 q127 q128 q129 q130 q131 q132 q133 q134 q135 q136 q137 q138 q139 q140 q141 q142 q4 sl2 sl5 sl6 sl7 sl8 sl9 sl10 sl11 sl12 sl13 sl14 sl15 sl16 sl17 sl18 sl19 sl20 sl21 sl22 sl23 sl24 ho hi
      go_simp
      exact hK _ _ (Below.refl _ _) rfl
    · obtain rfl := Option.some.inj ho
      have e0 : v 104 = (.bool true) := HD.out ⟨19, .data⟩ (by simp) rfl
      rw [e0] at q104
      clear q85 q86 q87 q88 q89 q90 q91 q92 q93 q94 q95 q96 q97 q98 q99 q100 q101 q102 q103 q105 q106 q107 q108 q109 q110 q111 q112 q113 q114 q115 q116 q117 q118 q119 q120 q121 q122 q123 q124 q125 q126 q127 q128 q129 q130 q131 q132 q133 q134 q135 q136 q137 q138 q139 q140 q141 q142 q4 sl2 sl5 sl6 sl7 sl8 sl9 sl10 sl11 sl12 sl13 sl14 sl15 sl16 sl17 sl18 sl19 sl20 sl21 sl22 sl23 sl24 ho hi
      go_simp
      exact hK _ _ (Below.refl _ _) rfl
    · obtain rfl := Option.some.inj ho
      have eg : v 105 = (.bool true) := HD.out ⟨20, .guard⟩ (by simp) rfl
      rw [eg] at q105
      clear q85 q86 q87 q88 q89 q90 q91 q92 q93 q94 q95 q96 q97 q98 q99 q100 q101 q102 q103 q104 q106 q107 q108 q109 q110 q111 q112 q113 q114 q115 q116 q117 q118 q119 q120 q121 q122 q123 q124 q125 q126 q127 q128 q129 q130 q131 q132 q133 q134 q135 q136 q137 q138 q139 q140 q141 q142 q4 sl2 sl5 sl6 sl7 sl8 sl9 sl11 sl12 sl13 sl14 sl15 sl16 sl17 sl18 sl19 sl20 sl21 sl22 sl23 sl24 ho hi
      go_simp
      exact hK _ _ (Below.refl _ _) rfl
    · obtain rfl := Option.some.inj ho
      have eg : v 105 = (.bool true) := HD.out ⟨20, .guard⟩ (by simp) rfl
      rw [eg] at q105
      clear q85 q86 q87 q88 q89 q90 q91 q92 q93 q94 q95 q96 q97 q98 q99 q100 q101 q102 q103 q104 q106 q107 q108 q109 q110 q111 q112 q113 q114 q115 q116 q117 q118 q119 q120 q121 q122 q123 q124 q125 q126 q127 q128 q129 q130 q131 q132 q133 q134 q135 q136 q137 q138 q139 q140 q141 q142 q4 sl2 sl5 sl6 sl7 sl8 sl9 sl10 sl11 sl13 sl14 sl15 sl16 sl17 sl18 sl19 sl20 sl21 sl22 sl23 sl24 ho hi
      go_simp
      exact hK _ _ (Below.refl _ _) rfl
    · obtain rfl := Option.some.inj ho
      have eg : v 105 = (.bool true) := HD.out ⟨20, .guard⟩ (by simp) rfl
      rw [eg] at q105
      have e0 : v 106 = (.int .i64 r0) := HD.out ⟨21, .data⟩ (by simp) rfl
      rw [e0] at q106
      have e1 : v 107 = (.int .i64 r0) := HD.out ⟨22, .data⟩ (by simp) rfl
      rw [e1] at q107
      clear q85 q86 q87 q88 q89 q90 q91 q92 q93 q94 q95 q96 q97 q98 q99 q100 q101 q102 q103 q104 q108 q109 q110 q111 q112 q113 q114 q115 q116 q117 q118 q119 q120 q121 q122 q123 q124 q125 q126 q127 q128 q129 q130 q131 q132 q133 q134 q135 q136 q137 q138 q139 q140 q141 q142 q4 sl2 sl5 sl6 sl7 sl8 sl9 sl10 sl11 sl12 sl13 sl14 sl15 sl16 sl17 sl18 sl19 sl20 sl21 sl22 sl23 sl24 ho hi
      go_simp
      try rw [beq_self_eq_true]
      try simp only [beq_self_eq_true, Bool.and_self, Bool.true_and, Bool.and_true]
      exact hK _ _ (Below.refl _ _) rfl
    · obtain rfl := Option.some.inj ho
      have e0 : v 105 = (.bool true) := HD.out ⟨20, .data⟩ (by simp) rfl
      rw [e0] at q105
      have e1 : v 108 = (.bool true) := HD.out ⟨23, .data⟩ (by simp) rfl
      rw [e1] at q108
      clear q85 q86 q87 q88 q89 q90 q91 q92 q93 q94 q95 q96 q97 q98 q99 q100 q101 q102 q103 q104 q106 q107 q109 q110 q111 q112 q113 q114 q115 q116 q117 q118 q119 q120 q121 q122 q123 q124 q125 q126 q127 q128 q129 q130 q131 q132 q133 q134 q135 q136 q137 q138 q139 q140 q141 q142 q4 sl2 sl5 sl6 sl7 sl8 sl9 sl10 sl11 sl12 sl13 sl14 sl15 sl16 sl17 sl18 sl19 sl20 sl21 sl22 sl23 sl24 ho hi
      go_simp
      exact hK _ _ (Below.refl _ _) rfl
    · obtain rfl := Option.some.inj ho
      have e0 : v 109 = (.bool true) := HD.out ⟨24, .data⟩ (by simp) rfl
      rw [e0] at q109
      clear q85 q86 q87 q88 q89 q90 q91 q92 q93 q94 q95 q96 q97 q98 q99 q100 q101 q102 q103 q104 q105 q106 q107 q108 q110 q111 q112 q113 q114 q115 q116 q117 q118 q119 q120 q121 q122 q123 q124 q125 q126 q127 q128 q129 q130 q131 q132 q133 q134 q135 q136 q137 q138 q139 q140 q141 q142 q4 sl2 sl5 sl6 sl7 sl8 sl9 sl10 sl11 sl12 sl13 sl14 sl15 sl16 sl17 sl18 sl19 sl20 sl21 sl22 sl23 sl24 ho hi
      go_simp
      exact hK _ _ (Below.refl _ _) rfl
    · obtain rfl := Option.some.inj ho
      have eg : v 110 = (.bool true) := HD.out ⟨25, .guard⟩ (by simp) rfl
      rw [eg] at q110
      obtain ⟨k0, k1, -⟩ : N2 wx (w5.heap.size) t1 t2 := HF.out.2.1 6 _ rfl
      have hP := (rfl : Value.agg #[.int .i64 t1, .int .i64 t2] = .agg #[.int .i64 t1, .int .i64 t2])
      clear q85 q86 q87 q88 q89 q90 q91 q92 q93 q94 q95 q96 q97 q98 q99 q100 q101 q102 q103 q104 q105 q106 q107 q108 q109 q111 q112 q113 q114 q115 q116 q117 q118 q119 q120 q121 q122 q123 q124 q125 q126 q127 q128 q129 q130 q131 q132 q133 q134 q135 q136 q137 q138 q139 q140 q141 q142 q4 sl2 sl5 sl6 sl7 sl8 sl9 sl10 sl11 sl12 sl14 sl15 sl16 sl17 sl18 sl19 sl20 sl21 sl22 sl23 sl24 ho hi
      go_simp
      exact hK _ _ (Below.refl _ _) hP
    · obtain rfl := Option.some.inj ho
      have eg : v 110 = (.bool true) := HD.out ⟨25, .guard⟩ (by simp) rfl
      rw [eg] at q110
      obtain ⟨k0, k1, -⟩ : N2 wx (w6.heap.size) t1 t2 := HF.out.2.1 7 _ rfl
      have hP := (rfl : Value.agg #[.int .i64 t1, .int .i64 t2] = .agg #[.int .i64 t1, .int .i64 t2])
      clear q85 q86 q87 q88 q89 q90 q91 q92 q93 q94 q95 q96 q97 q98 q99 q100 q101 q102 q103 q104 q105 q106 q107 q108 q109 q111 q112 q113 q114 q115 q116 q117 q118 q119 q120 q121 q122 q123 q124 q125 q126 q127 q128 q129 q130 q131 q132 q133 q134 q135 q136 q137 q138 q139 q140 q141 q142 q4 sl2 sl5 sl6 sl7 sl8 sl9 sl10 sl11 sl12 sl13 sl14 sl16 sl17 sl18 sl19 sl20 sl21 sl22 sl23 sl24 ho hi
      go_simp
      exact hK _ _ (Below.refl _ _) hP
    · obtain rfl := Option.some.inj ho
      have eg : v 110 = (.bool true) := HD.out ⟨25, .guard⟩ (by simp) rfl
      rw [eg] at q110
      have e0 : v 111 = (.agg #[.int .i64 t1, .int .i64 t2]) := HD.out ⟨26, .data⟩ (by simp) rfl
      rw [e0] at q111
      have e1 : v 112 = (.agg #[.int .i64 t1, .int .i64 t2]) := HD.out ⟨27, .data⟩ (by simp) rfl
      rw [e1] at q112
      clear q85 q86 q87 q88 q89 q90 q91 q92 q93 q94 q95 q96 q97 q98 q99 q100 q101 q102 q103 q104 q105 q106 q107 q108 q109 q113 q114 q115 q116 q117 q118 q119 q120 q121 q122 q123 q124 q125 q126 q127 q128 q129 q130 q131 q132 q133 q134 q135 q136 q137 q138 q139 q140 q141 q142 q4 sl2 sl5 sl6 sl7 sl8 sl9 sl10 sl11 sl12 sl13 sl14 sl15 sl16 sl17 sl18 sl19 sl20 sl21 sl22 sl23 sl24 ho hi
      go_simp
      try rw [beq_self_eq_true]
      try simp only [beq_self_eq_true, Bool.and_self, Bool.true_and, Bool.and_true]
      exact hK _ _ (Below.refl _ _) rfl
    · obtain rfl := Option.some.inj ho
      have e0 : v 110 = (.bool true) := HD.out ⟨25, .data⟩ (by simp) rfl
      rw [e0] at q110
      have e1 : v 113 = (.bool true) := HD.out ⟨28, .data⟩ (by simp) rfl
      rw [e1] at q113
      clear q85 q86 q87 q88 q89 q90 q91 q92 q93 q94 q95 q96 q97 q98 q99 q100 q101 q102 q103 q104 q105 q106 q107 q108 q109 q111 q112 q114 q115 q116 q117 q118 q119 q120 q121 q122 q123 q124 q125 q126 q127 q128 q129 q130 q131 q132 q133 q134 q135 q136 q137 q138 q139 q140 q141 q142 q4 sl2 sl5 sl6 sl7 sl8 sl9 sl10 sl11 sl12 sl13 sl14 sl15 sl16 sl17 sl18 sl19 sl20 sl21 sl22 sl23 sl24 ho hi
      go_simp
      exact hK _ _ (Below.refl _ _) rfl
    · obtain rfl := Option.some.inj ho
      have e0 : v 114 = (.bool true) := HD.out ⟨29, .data⟩ (by simp) rfl
      rw [e0] at q114
      clear q85 q86 q87 q88 q89 q90 q91 q92 q93 q94 q95 q96 q97 q98 q99 q100 q101 q102 q103 q104 q105 q106 q107 q108 q109 q110 q111 q112 q113 q115 q116 q117 q118 q119 q120 q121 q122 q123 q124 q125 q126 q127 q128 q129 q130 q131 q132 q133 q134 q135 q136 q137 q138 q139 q140 q141 q142 q4 sl2 sl5 sl6 sl7 sl8 sl9 sl10 sl11 sl12 sl13 sl14 sl15 sl16 sl17 sl18 sl19 sl20 sl21 sl22 sl23 sl24 ho hi
      go_simp
      exact hK _ _ (Below.refl _ _) rfl
    · obtain rfl := Option.some.inj ho
      have eg : v 115 = (.bool true) := HD.out ⟨30, .guard⟩ (by simp) rfl
      rw [eg] at q115
      clear q85 q86 q87 q88 q89 q90 q91 q92 q93 q94 q95 q96 q97 q98 q99 q100 q101 q102 q103 q104 q105 q106 q107 q108 q109 q110 q111 q112 q113 q114 q116 q117 q118 q119 q120 q121 q122 q123 q124 q125 q126 q127 q128 q129 q130 q131 q132 q133 q134 q135 q136 q137 q138 q139 q140 q141 q142 q4 sl2 sl5 sl6 sl7 sl8 sl9 sl10 sl11 sl12 sl13 sl15 sl16 sl17 sl18 sl19 sl20 sl21 sl22 sl23 sl24 ho hi
      go_simp
      exact hK _ _ (Below.refl _ _) rfl
    · obtain rfl := Option.some.inj ho
      have eg : v 115 = (.bool true) := HD.out ⟨30, .guard⟩ (by simp) rfl
      rw [eg] at q115
      clear q85 q86 q87 q88 q89 q90 q91 q92 q93 q94 q95 q96 q97 q98 q99 q100 q101 q102 q103 q104 q105 q106 q107 q108 q109 q110 q111 q112 q113 q114 q116 q117 q118 q119 q120 q121 q122 q123 q124 q125 q126 q127 q128 q129 q130 q131 q132 q133 q134 q135 q136 q137 q138 q139 q140 q141 q142 q4 sl2 sl5 sl6 sl7 sl8 sl9 sl10 sl11 sl12 sl13 sl14 sl15 sl17 sl18 sl19 sl20 sl21 sl22 sl23 sl24 ho hi
      go_simp
      exact hK _ _ (Below.refl _ _) rfl
    · obtain rfl := Option.some.inj ho
      have eg : v 115 = (.bool true) := HD.out ⟨30, .guard⟩ (by simp) rfl
      rw [eg] at q115
      have e0 : v 116 = (.int .i64 t0) := HD.out ⟨31, .data⟩ (by simp) rfl
      rw [e0] at q116
      have e1 : v 117 = (.int .i64 t0) := HD.out ⟨32, .data⟩ (by simp) rfl
      rw [e1] at q117
      clear q85 q86 q87 q88 q89 q90 q91 q92 q93 q94 q95 q96 q97 q98 q99 q100 q101 q102 q103 q104 q105 q106 q107 q108 q109 q110 q111 q112 q113 q114 q118 q119 q120 q121 q122 q123 q124 q125 q126 q127 q128 q129 q130 q131 q132 q133 q134 q135 q136 q137 q138 q139 q140 q141 q142 q4 sl2 sl5 sl6 sl7 sl8 sl9 sl10 sl11 sl12 sl13 sl14 sl15 sl16 sl17 sl18 sl19 sl20 sl21 sl22 sl23 sl24 ho hi
      go_simp
      try rw [beq_self_eq_true]
      try simp only [beq_self_eq_true, Bool.and_self, Bool.true_and, Bool.and_true]
      exact hK _ _ (Below.refl _ _) rfl
    · obtain rfl := Option.some.inj ho
      have e0 : v 115 = (.bool true) := HD.out ⟨30, .data⟩ (by simp) rfl
      rw [e0] at q115
      have e1 : v 118 = (.bool true) := HD.out ⟨33, .data⟩ (by simp) rfl
      rw [e1] at q118
      clear q85 q86 q87 q88 q89 q90 q91 q92 q93 q94 q95 q96 q97 q98 q99 q100 q101 q102 q103 q104 q105 q106 q107 q108 q109 q110 q111 q112 q113 q114 q116 q117 q119 q120 q121 q122 q123 q124 q125 q126 q127 q128 q129 q130 q131 q132 q133 q134 q135 q136 q137 q138 q139 q140 q141 q142 q4 sl2 sl5 sl6 sl7 sl8 sl9 sl10 sl11 sl12 sl13 sl14 sl15 sl16 sl17 sl18 sl19 sl20 sl21 sl22 sl23 sl24 ho hi
      go_simp
      exact hK _ _ (Below.refl _ _) rfl
    · obtain rfl := Option.some.inj ho
      have e0 : v 119 = (.bool true) := HD.out ⟨34, .data⟩ (by simp) rfl
      rw [e0] at q119
      clear q85 q86 q87 q88 q89 q90 q91 q92 q93 q94 q95 q96 q97 q98 q99 q100 q101 q102 q103 q104 q105 q106 q107 q108 q109 q110 q111 q112 q113 q114 q115 q116 q117 q118 q120 q121 q122 q123 q124 q125 q126 q127 q128 q129 q130 q131 q132 q133 q134 q135 q136 q137 q138 q139 q140 q141 q142 q4 sl2 sl5 sl6 sl7 sl8 sl9 sl10 sl11 sl12 sl13 sl14 sl15 sl16 sl17 sl18 sl19 sl20 sl21 sl22 sl23 sl24 ho hi
      go_simp
      exact hK _ _ (Below.refl _ _) rfl
    · obtain rfl := Option.some.inj ho
      have eg : v 120 = (.bool true) := HD.out ⟨35, .guard⟩ (by simp) rfl
      rw [eg] at q120
      obtain ⟨k0, k1, -⟩ : N2 wx (w7.heap.size) v1 v2 := HF.out.2.1 8 _ rfl
      have hP := (rfl : Value.agg #[.int .i64 v1, .int .i64 v2] = .agg #[.int .i64 v1, .int .i64 v2])
      clear q85 q86 q87 q88 q89 q90 q91 q92 q93 q94 q95 q96 q97 q98 q99 q100 q101 q102 q103 q104 q105 q106 q107 q108 q109 q110 q111 q112 q113 q114 q115 q116 q117 q118 q119 q121 q122 q123 q124 q125 q126 q127 q128 q129 q130 q131 q132 q133 q134 q135 q136 q137 q138 q139 q140 q141 q142 q4 sl2 sl5 sl6 sl7 sl8 sl9 sl10 sl11 sl12 sl13 sl14 sl15 sl16 sl18 sl19 sl20 sl21 sl22 sl23 sl24 ho hi
      go_simp
      exact hK _ _ (Below.refl _ _) hP
    · obtain rfl := Option.some.inj ho
      have eg : v 120 = (.bool true) := HD.out ⟨35, .guard⟩ (by simp) rfl
      rw [eg] at q120
      obtain ⟨k0, k1, -⟩ : N2 wx (w8.heap.size) v1 v2 := HF.out.2.1 9 _ rfl
      have hP := (rfl : Value.agg #[.int .i64 v1, .int .i64 v2] = .agg #[.int .i64 v1, .int .i64 v2])
      clear q85 q86 q87 q88 q89 q90 q91 q92 q93 q94 q95 q96 q97 q98 q99 q100 q101 q102 q103 q104 q105 q106 q107 q108 q109 q110 q111 q112 q113 q114 q115 q116 q117 q118 q119 q121 q122 q123 q124 q125 q126 q127 q128 q129 q130 q131 q132 q133 q134 q135 q136 q137 q138 q139 q140 q141 q142 q4 sl2 sl5 sl6 sl7 sl8 sl9 sl10 sl11 sl12 sl13 sl14 sl15 sl16 sl17 sl18 sl20 sl21 sl22 sl23 sl24 ho hi
      go_simp
      exact hK _ _ (Below.refl _ _) hP
    · obtain rfl := Option.some.inj ho
      have eg : v 120 = (.bool true) := HD.out ⟨35, .guard⟩ (by simp) rfl
      rw [eg] at q120
      have e0 : v 121 = (.agg #[.int .i64 v1, .int .i64 v2]) := HD.out ⟨36, .data⟩ (by simp) rfl
      rw [e0] at q121
      have e1 : v 122 = (.agg #[.int .i64 v1, .int .i64 v2]) := HD.out ⟨37, .data⟩ (by simp) rfl
      rw [e1] at q122
      clear q85 q86 q87 q88 q89 q90 q91 q92 q93 q94 q95 q96 q97 q98 q99 q100 q101 q102 q103 q104 q105 q106 q107 q108 q109 q110 q111 q112 q113 q114 q115 q116 q117 q118 q119 q123 q124 q125 q126 q127 q128 q129 q130 q131 q132 q133 q134 q135 q136 q137 q138 q139 q140 q141 q142 q4 sl2 sl5 sl6 sl7 sl8 sl9 sl10 sl11 sl12 sl13 sl14 sl15 sl16 sl17 sl18 sl19 sl20 sl21 sl22 sl23 sl24 ho hi
      go_simp
      try rw [beq_self_eq_true]
      try simp only [beq_self_eq_true, Bool.and_self, Bool.true_and, Bool.and_true]
      exact hK _ _ (Below.refl _ _) rfl
    · obtain rfl := Option.some.inj ho
      have e0 : v 120 = (.bool true) := HD.out ⟨35, .data⟩ (by simp) rfl
      rw [e0] at q120
      have e1 : v 123 = (.bool true) := HD.out ⟨38, .data⟩ (by simp) rfl
      rw [e1] at q123
      clear q85 q86 q87 q88 q89 q90 q91 q92 q93 q94 q95 q96 q97 q98 q99 q100 q101 q102 q103 q104 q105 q106 q107 q108 q109 q110 q111 q112 q113 q114 q115 q116 q117 q118 q119 q121 q122 q124 q125 q126 q127 q128 q129 q130 q131 q132 q133 q134 q135 q136 q137 q138 q139 q140 q141 q142 q4 sl2 sl5 sl6 sl7 sl8 sl9 sl10 sl11 sl12 sl13 sl14 sl15 sl16 sl17 sl18 sl19 sl20 sl21 sl22 sl23 sl24 ho hi
      go_simp
      exact hK _ _ (Below.refl _ _) rfl
    · obtain rfl := Option.some.inj ho
      have e0 : v 124 = (.bool true) := HD.out ⟨39, .data⟩ (by simp) rfl
      rw [e0] at q124
      clear q85 q86 q87 q88 q89 q90 q91 q92 q93 q94 q95 q96 q97 q98 q99 q100 q101 q102 q103 q104 q105 q106 q107 q108 q109 q110 q111 q112 q113 q114 q115 q116 q117 q118 q119 q120 q121 q122 q123 q125 q126 q127 q128 q129 q130 q131 q132 q133 q134 q135 q136 q137 q138 q139 q140 q141 q142 q4 sl2 sl5 sl6 sl7 sl8 sl9 sl10 sl11 sl12 sl13 sl14 sl15 sl16 sl17 sl18 sl19 sl20 sl21 sl22 sl23 sl24 ho hi
      go_simp
      exact hK _ _ (Below.refl _ _) rfl
    · obtain rfl := Option.some.inj ho
      have eg : v 125 = (.bool true) := HD.out ⟨40, .guard⟩ (by simp) rfl
      rw [eg] at q125
      clear q85 q86 q87 q88 q89 q90 q91 q92 q93 q94 q95 q96 q97 q98 q99 q100 q101 q102 q103 q104 q105 q106 q107 q108 q109 q110 q111 q112 q113 q114 q115 q116 q117 q118 q119 q120 q121 q122 q123 q124 q126 q127 q128 q129 q130 q131 q132 q133 q134 q135 q136 q137 q138 q139 q140 q141 q142 q4 sl2 sl5 sl6 sl7 sl8 sl9 sl10 sl11 sl12 sl13 sl14 sl15 sl16 sl17 sl19 sl20 sl21 sl22 sl23 sl24 ho hi
      go_simp
      exact hK _ _ (Below.refl _ _) rfl
    · obtain rfl := Option.some.inj ho
      have eg : v 125 = (.bool true) := HD.out ⟨40, .guard⟩ (by simp) rfl
      rw [eg] at q125
      clear q85 q86 q87 q88 q89 q90 q91 q92 q93 q94 q95 q96 q97 q98 q99 q100 q101 q102 q103 q104 q105 q106 q107 q108 q109 q110 q111 q112 q113 q114 q115 q116 q117 q118 q119 q120 q121 q122 q123 q124 q126 q127 q128 q129 q130 q131 q132 q133 q134 q135 q136 q137 q138 q139 q140 q141 q142 q4 sl2 sl5 sl6 sl7 sl8 sl9 sl10 sl11 sl12 sl13 sl14 sl15 sl16 sl17 sl18 sl19 sl21 sl22 sl23 sl24 ho hi
      go_simp
      exact hK _ _ (Below.refl _ _) rfl
    · obtain rfl := Option.some.inj ho
      have eg : v 125 = (.bool true) := HD.out ⟨40, .guard⟩ (by simp) rfl
      rw [eg] at q125
      have e0 : v 126 = (.int .i64 v0) := HD.out ⟨41, .data⟩ (by simp) rfl
      rw [e0] at q126
      have e1 : v 127 = (.int .i64 v0) := HD.out ⟨42, .data⟩ (by simp) rfl
      rw [e1] at q127
      clear q85 q86 q87 q88 q89 q90 q91 q92 q93 q94 q95 q96 q97 q98 q99 q100 q101 q102 q103 q104 q105 q106 q107 q108 q109 q110 q111 q112 q113 q114 q115 q116 q117 q118 q119 q120 q121 q122 q123 q124 q128 q129 q130 q131 q132 q133 q134 q135 q136 q137 q138 q139 q140 q141 q142 q4 sl2 sl5 sl6 sl7 sl8 sl9 sl10 sl11 sl12 sl13 sl14 sl15 sl16 sl17 sl18 sl19 sl20 sl21 sl22 sl23 sl24 ho hi
      go_simp
      try rw [beq_self_eq_true]
      try simp only [beq_self_eq_true, Bool.and_self, Bool.true_and, Bool.and_true]
      exact hK _ _ (Below.refl _ _) rfl
    · obtain rfl := Option.some.inj ho
      have e0 : v 125 = (.bool true) := HD.out ⟨40, .data⟩ (by simp) rfl
      rw [e0] at q125
      have e1 : v 128 = (.bool true) := HD.out ⟨43, .data⟩ (by simp) rfl
      rw [e1] at q128
      clear q85 q86 q87 q88 q89 q90 q91 q92 q93 q94 q95 q96 q97 q98 q99 q100 q101 q102 q103 q104 q105 q106 q107 q108 q109 q110 q111 q112 q113 q114 q115 q116 q117 q118 q119 q120 q121 q122 q123 q124 q126 q127 q129 q130 q131 q132 q133 q134 q135 q136 q137 q138 q139 q140 q141 q142 q4 sl2 sl5 sl6 sl7 sl8 sl9 sl10 sl11 sl12 sl13 sl14 sl15 sl16 sl17 sl18 sl19 sl20 sl21 sl22 sl23 sl24 ho hi
      go_simp
      exact hK _ _ (Below.refl _ _) rfl
    · obtain rfl := Option.some.inj ho
      have e0 : v 129 = (.bool true) := HD.out ⟨44, .data⟩ (by simp) rfl
      rw [e0] at q129
      clear q85 q86 q87 q88 q89 q90 q91 q92 q93 q94 q95 q96 q97 q98 q99 q100 q101 q102 q103 q104 q105 q106 q107 q108 q109 q110 q111 q112 q113 q114 q115 q116 q117 q118 q119 q120 q121 q122 q123 q124 q125 q126 q127 q128 q130 q131 q132 q133 q134 q135 q136 q137 q138 q139 q140 q141 q142 q4 sl2 sl5 sl6 sl7 sl8 sl9 sl10 sl11 sl12 sl13 sl14 sl15 sl16 sl17 sl18 sl19 sl20 sl21 sl22 sl23 sl24 ho hi
      go_simp
      exact hK _ _ (Below.refl _ _) rfl
    · obtain rfl := Option.some.inj ho
      have eg : v 130 = (.bool true) := HD.out ⟨45, .guard⟩ (by simp) rfl
      rw [eg] at q130
      clear q85 q86 q87 q88 q89 q90 q91 q92 q93 q94 q95 q96 q97 q98 q99 q100 q101 q102 q103 q104 q105 q106 q107 q108 q109 q110 q111 q112 q113 q114 q115 q116 q117 q118 q119 q120 q121 q122 q123 q124 q125 q126 q127 q128 q129 q131 q132 q133 q134 q135 q136 q137 q138 q139 q140 q141 q142 q4 sl2 sl5 sl6 sl7 sl8 sl9 sl10 sl11 sl12 sl13 sl14 sl15 sl16 sl17 sl18 sl19 sl20 sl22 sl23 sl24 ho hi
      go_simp
      exact hK _ _ (Below.refl _ _) rfl
    · obtain rfl := Option.some.inj ho
      have eg : v 130 = (.bool true) := HD.out ⟨45, .guard⟩ (by simp) rfl
      rw [eg] at q130
      clear q85 q86 q87 q88 q89 q90 q91 q92 q93 q94 q95 q96 q97 q98 q99 q100 q101 q102 q103 q104 q105 q106 q107 q108 q109 q110 q111 q112 q113 q114 q115 q116 q117 q118 q119 q120 q121 q122 q123 q124 q125 q126 q127 q128 q129 q131 q132 q133 q134 q135 q136 q137 q138 q139 q140 q141 q142 q4 sl2 sl5 sl6 sl7 sl8 sl9 sl10 sl11 sl12 sl13 sl14 sl15 sl16 sl17 sl18 sl19 sl20 sl21 sl22 sl24 ho hi
      go_simp
      exact hK _ _ (Below.refl _ _) rfl
    · obtain rfl := Option.some.inj ho
      have eg : v 130 = (.bool true) := HD.out ⟨45, .guard⟩ (by simp) rfl
      rw [eg] at q130
      have e0 : v 131 = (.int .i64 x0) := HD.out ⟨46, .data⟩ (by simp) rfl
      rw [e0] at q131
      have e1 : v 132 = (.int .i64 x0) := HD.out ⟨47, .data⟩ (by simp) rfl
      rw [e1] at q132
      clear q85 q86 q87 q88 q89 q90 q91 q92 q93 q94 q95 q96 q97 q98 q99 q100 q101 q102 q103 q104 q105 q106 q107 q108 q109 q110 q111 q112 q113 q114 q115 q116 q117 q118 q119 q120 q121 q122 q123 q124 q125 q126 q127 q128 q129 q133 q134 q135 q136 q137 q138 q139 q140 q141 q142 q4 sl2 sl5 sl6 sl7 sl8 sl9 sl10 sl11 sl12 sl13 sl14 sl15 sl16 sl17 sl18 sl19 sl20 sl21 sl22 sl23 sl24 ho hi
      go_simp
      try rw [beq_self_eq_true]
      try simp only [beq_self_eq_true, Bool.and_self, Bool.true_and, Bool.and_true]
      exact hK _ _ (Below.refl _ _) rfl
    · obtain rfl := Option.some.inj ho
      have e0 : v 130 = (.bool true) := HD.out ⟨45, .data⟩ (by simp) rfl
      rw [e0] at q130
      have e1 : v 133 = (.bool true) := HD.out ⟨48, .data⟩ (by simp) rfl
      rw [e1] at q133
      clear q85 q86 q87 q88 q89 q90 q91 q92 q93 q94 q95 q96 q97 q98 q99 q100 q101 q102 q103 q104 q105 q106 q107 q108 q109 q110 q111 q112 q113 q114 q115 q116 q117 q118 q119 q120 q121 q122 q123 q124 q125 q126 q127 q128 q129 q131 q132 q134 q135 q136 q137 q138 q139 q140 q141 q142 q4 sl2 sl5 sl6 sl7 sl8 sl9 sl10 sl11 sl12 sl13 sl14 sl15 sl16 sl17 sl18 sl19 sl20 sl21 sl22 sl23 sl24 ho hi
      go_simp
      exact hK _ _ (Below.refl _ _) rfl
    · obtain rfl := Option.some.inj ho
      have e0 : v 134 = (.bool true) := HD.out ⟨49, .data⟩ (by simp) rfl
      rw [e0] at q134
      clear q85 q86 q87 q88 q89 q90 q91 q92 q93 q94 q95 q96 q97 q98 q99 q100 q101 q102 q103 q104 q105 q106 q107 q108 q109 q110 q111 q112 q113 q114 q115 q116 q117 q118 q119 q120 q121 q122 q123 q124 q125 q126 q127 q128 q129 q130 q131 q132 q133 q135 q136 q137 q138 q139 q140 q141 q142 q4 sl2 sl5 sl6 sl7 sl8 sl9 sl10 sl11 sl12 sl13 sl14 sl15 sl16 sl17 sl18 sl19 sl20 sl21 sl22 sl23 sl24 ho hi
      go_simp
      exact hK _ _ (Below.refl _ _) rfl
    · obtain rfl := Option.some.inj ho
      have eg : v 135 = (.bool true) := HD.out ⟨50, .guard⟩ (by simp) rfl
      rw [eg] at q135
      clear q85 q86 q87 q88 q89 q90 q91 q92 q93 q94 q95 q96 q97 q98 q99 q100 q101 q102 q103 q104 q105 q106 q107 q108 q109 q110 q111 q112 q113 q114 q115 q116 q117 q118 q119 q120 q121 q122 q123 q124 q125 q126 q127 q128 q129 q130 q131 q132 q133 q134 q136 q137 q138 q139 q140 q141 q142 q4 sl2 sl5 sl6 sl7 sl8 sl9 sl10 sl11 sl12 sl13 sl14 sl15 sl16 sl17 sl18 sl19 sl20 sl21 sl23 sl24 ho hi
      go_simp
      exact hK _ _ (Below.refl _ _) rfl
    · obtain rfl := Option.some.inj ho
      have eg : v 135 = (.bool true) := HD.out ⟨50, .guard⟩ (by simp) rfl
      rw [eg] at q135
      clear q85 q86 q87 q88 q89 q90 q91 q92 q93 q94 q95 q96 q97 q98 q99 q100 q101 q102 q103 q104 q105 q106 q107 q108 q109 q110 q111 q112 q113 q114 q115 q116 q117 q118 q119 q120 q121 q122 q123 q124 q125 q126 q127 q128 q129 q130 q131 q132 q133 q134 q136 q137 q138 q139 q140 q141 q142 q4 sl2 sl5 sl6 sl7 sl8 sl9 sl10 sl11 sl12 sl13 sl14 sl15 sl16 sl17 sl18 sl19 sl20 sl21 sl22 sl23 ho hi
      go_simp
      exact hK _ _ (Below.refl _ _) rfl
    · obtain rfl := Option.some.inj ho
      have eg : v 135 = (.bool true) := HD.out ⟨50, .guard⟩ (by simp) rfl
      rw [eg] at q135
      have e0 : v 136 = (.int .i64 m0) := HD.out ⟨51, .data⟩ (by simp) rfl
      rw [e0] at q136
      have e1 : v 137 = (.int .i64 m0) := HD.out ⟨52, .data⟩ (by simp) rfl
      rw [e1] at q137
      clear q85 q86 q87 q88 q89 q90 q91 q92 q93 q94 q95 q96 q97 q98 q99 q100 q101 q102 q103 q104 q105 q106 q107 q108 q109 q110 q111 q112 q113 q114 q115 q116 q117 q118 q119 q120 q121 q122 q123 q124 q125 q126 q127 q128 q129 q130 q131 q132 q133 q134 q138 q139 q140 q141 q142 q4 sl2 sl5 sl6 sl7 sl8 sl9 sl10 sl11 sl12 sl13 sl14 sl15 sl16 sl17 sl18 sl19 sl20 sl21 sl22 sl23 sl24 ho hi
      go_simp
      try rw [beq_self_eq_true]
      try simp only [beq_self_eq_true, Bool.and_self, Bool.true_and, Bool.and_true]
      exact hK _ _ (Below.refl _ _) rfl
    · obtain rfl := Option.some.inj ho
      have e0 : v 135 = (.bool true) := HD.out ⟨50, .data⟩ (by simp) rfl
      rw [e0] at q135
      have e1 : v 138 = (.bool true) := HD.out ⟨53, .data⟩ (by simp) rfl
      rw [e1] at q138
      clear q85 q86 q87 q88 q89 q90 q91 q92 q93 q94 q95 q96 q97 q98 q99 q100 q101 q102 q103 q104 q105 q106 q107 q108 q109 q110 q111 q112 q113 q114 q115 q116 q117 q118 q119 q120 q121 q122 q123 q124 q125 q126 q127 q128 q129 q130 q131 q132 q133 q134 q136 q137 q139 q140 q141 q142 q4 sl2 sl5 sl6 sl7 sl8 sl9 sl10 sl11 sl12 sl13 sl14 sl15 sl16 sl17 sl18 sl19 sl20 sl21 sl22 sl23 sl24 ho hi
      go_simp
      exact hK _ _ (Below.refl _ _) rfl
    · obtain rfl := Option.some.inj ho
      have e0 : v 139 = (.bool true) := HD.out ⟨54, .data⟩ (by simp) rfl
      rw [e0] at q139
      clear q85 q86 q87 q88 q89 q90 q91 q92 q93 q94 q95 q96 q97 q98 q99 q100 q101 q102 q103 q104 q105 q106 q107 q108 q109 q110 q111 q112 q113 q114 q115 q116 q117 q118 q119 q120 q121 q122 q123 q124 q125 q126 q127 q128 q129 q130 q131 q132 q133 q134 q135 q136 q137 q138 q140 q141 q142 q4 sl2 sl5 sl6 sl7 sl8 sl9 sl10 sl11 sl12 sl13 sl14 sl15 sl16 sl17 sl18 sl19 sl20 sl21 sl22 sl23 sl24 ho hi
      go_simp
      exact hK _ _ (Below.refl _ _) rfl
    · obtain rfl := Option.some.inj ho
      have eg : v 140 = (.bool true) := HD.out ⟨55, .guard⟩ (by simp) rfl
      rw [eg] at q140
      clear q85 q86 q87 q88 q89 q90 q91 q92 q93 q94 q95 q96 q97 q98 q99 q100 q101 q102 q103 q104 q105 q106 q107 q108 q109 q110 q111 q112 q113 q114 q115 q116 q117 q118 q119 q120 q121 q122 q123 q124 q125 q126 q127 q128 q129 q130 q131 q132 q133 q134 q135 q136 q137 q138 q139 q141 q142 q4 sl2 sl5 sl6 sl7 sl8 sl9 sl10 sl11 sl12 sl13 sl14 sl15 sl16 sl17 sl18 sl19 sl20 sl21 sl22 sl23 sl24 ho hi
      go_simp
      (with_reducible refine (HA.out _).mono ?_)
      rintro e w2 ⟨u, rfl, hu, hB⟩
      exact hK _ _ hB hu
    · obtain rfl := Option.some.inj ho
      have e0 : v 140 = (.bool true) := HD.out ⟨55, .data⟩ (by simp) rfl
      rw [e0] at q140
      have e1 : v 141 = (.bool true) := HD.out ⟨56, .data⟩ (by simp) rfl
      rw [e1] at q141
      clear q85 q86 q87 q88 q89 q90 q91 q92 q93 q94 q95 q96 q97 q98 q99 q100 q101 q102 q103 q104 q105 q106 q107 q108 q109 q110 q111 q112 q113 q114 q115 q116 q117 q118 q119 q120 q121 q122 q123 q124 q125 q126 q127 q128 q129 q130 q131 q132 q133 q134 q135 q136 q137 q138 q139 q142 q4 sl2 sl5 sl6 sl7 sl8 sl9 sl10 sl11 sl12 sl13 sl14 sl15 sl16 sl17 sl18 sl19 sl20 sl21 sl22 sl23 sl24 ho hi
      go_simp
      exact hK _ _ (Below.refl _ _) rfl
    · obtain rfl := Option.some.inj ho
      have e0 : v 142 = (.bool true) := HD.out ⟨57, .data⟩ (by simp) rfl
      rw [e0] at q142
      clear q85 q86 q87 q88 q89 q90 q91 q92 q93 q94 q95 q96 q97 q98 q99 q100 q101 q102 q103 q104 q105 q106 q107 q108 q109 q110 q111 q112 q113 q114 q115 q116 q117 q118 q119 q120 q121 q122 q123 q124 q125 q126 q127 q128 q129 q130 q131 q132 q133 q134 q135 q136 q137 q138 q139 q140 q141 q4 sl2 sl5 sl6 sl7 sl8 sl9 sl10 sl11 sl12 sl13 sl14 sl15 sl16 sl17 sl18 sl19 sl20 sl21 sl22 sl23 sl24 ho hi
      go_simp
      exact hK _ _ (Below.refl _ _) rfl
  · intro v wx hF hall
    have h4 : v 4 = .bool true := hall 58 (by decide)
    have HB := Lib.hid hF.1
    clear hF hall
    simp only [over, List.setIfInBounds_toArray, List.set_cons_zero, List.set_cons_succ]
    rw [h4]
    generalize v 85 = v85
    generalize v 86 = v86
    generalize v 87 = v87
    generalize v 88 = v88
    generalize v 89 = v89
    generalize v 90 = v90
    generalize v 91 = v91
    generalize v 92 = v92
    generalize v 93 = v93
    generalize v 94 = v94
    generalize v 95 = v95
    generalize v 96 = v96
    generalize v 97 = v97
    generalize v 98 = v98
    generalize v 99 = v99
    generalize v 100 = v100
    generalize v 101 = v101
    generalize v 102 = v102
    generalize v 103 = v103
    generalize v 104 = v104
    generalize v 105 = v105
    generalize v 106 = v106
    generalize v 107 = v107
    generalize v 108 = v108
    generalize v 109 = v109
    generalize v 110 = v110
    generalize v 111 = v111
    generalize v 112 = v112
    generalize v 113 = v113
    generalize v 114 = v114
    generalize v 115 = v115
    generalize v 116 = v116
    generalize v 117 = v117
    generalize v 118 = v118
    generalize v 119 = v119
    generalize v 120 = v120
    generalize v 121 = v121
    generalize v 122 = v122
    generalize v 123 = v123
    generalize v 124 = v124
    generalize v 125 = v125
    generalize v 126 = v126
    generalize v 127 = v127
    generalize v 128 = v128
    generalize v 129 = v129
    generalize v 130 = v130
    generalize v 131 = v131
    generalize v 132 = v132
    generalize v 133 = v133
    generalize v 134 = v134
    generalize v 135 = v135
    generalize v 136 = v136
    generalize v 137 = v137
    generalize v 138 = v138
    generalize v 139 = v139
    generalize v 140 = v140
    generalize v 141 = v141
    generalize v 142 = v142
    go_wp2_with fail
    go_ret
    exact ⟨rfl, HB.out⟩

theorem arith_any (ta la tb lb : Int) (w : World) :
    Calls Tryz.prog 3 #[.agg #[.int .i64 ta, .int .i64 la], .agg #[.int .i64 tb, .int .i64 lb]] w fun e w' => e = .returned (.bool true) ∧ Below w.heap.size w w' :=
  arith_walk ta la tb lb _ _ _ _ _ _ _ _ _ _ _ _ _ _ (vld ta la) w (Lib.hid fun wx => addRt ta la tb lb wx) (Lib.hid fun wx => radd_any ta la tb lb wx) (Lib.hid fun wx => subRt ta la tb lb wx) (Lib.hid fun wx => rsub_any ta la tb lb wx) (Lib.hid fun wx => mulRt ta la tb lb wx) (Lib.hid fun wx => rmul_any ta la tb lb wx) (Lib.hid fun wx => divRt ta la tb lb wx) (Lib.hid fun wx => rdiv_any ta la tb lb wx)
    (Lib.hid fun wx => ncmp_any ta la tb lb wx) (Lib.hid fun wx => rcmpN_any ta la tb lb wx) (Lib.hid fun wx => (valid_any ta la wx).mono (by rintro e w' ⟨rfl, hB⟩; exact ⟨_, rfl, rfl, hB⟩)) (Lib.hid fun wx => (rvalid_any ta la wx).mono (by rintro e w' ⟨rfl, hB⟩; exact ⟨_, rfl, rfl, hB⟩))
    (Lib.hid fun wx => (awake_any wx).mono (by rintro e w' ⟨rfl, hB⟩; exact ⟨_, rfl, rfl, hB⟩))

end Go.Proofs.YtjoanclnaeephaaGreat
