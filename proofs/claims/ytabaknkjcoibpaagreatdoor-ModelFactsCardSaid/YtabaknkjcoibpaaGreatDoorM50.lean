/- diceboxlaw04.ModelFacts: the walk, and the law for all models and lists. -/
import Derived.Test.YtabaknkjcoibpaaGreatDoorM48
import Derived.Test.YtabaknkjcoibpaaGreatDoorM45
import Derived.Test.YtabaknkjcoibpaaGreatDoorM46
import Derived.Test.YtabaknkjcoibpaaGreatDoorM49
import Derived.Test.YtabaknkjcoibpaaGreatDoorM39

namespace Go.Proofs.YtabaknkjcoibpaaGreatDoor
open Go.RowKit

/-- The boxes of two models. -/
def Mb2 (w : World) (g : Nat) (A : Option Addr) (n c : Nat) (B : Option Addr) (m d : Nat) : Prop := w.cell? ⟨g, 0, none⟩ = some (.slice A n c) ∧ w.cell? ⟨g + 1, 0, none⟩ = some (.slice B m d) ∧ g + 1 < w.heap.size
theorem Mb2.keep {w w' : World} {g : Nat} {A : Option Addr} {n c : Nat} {B : Option Addr} {m d : Nat} (h : Mb2 w g A n c B m d) (hb : Below w.heap.size w w') : Mb2 w' g A n c B m d :=
  ⟨(hb.cell (p := ⟨g, 0, none⟩) (Nat.lt_of_succ_lt h.2.2)).trans h.1, (hb.cell (p := ⟨g + 1, 0, none⟩) h.2.2).trans h.2.1, Nat.lt_of_lt_of_le h.2.2 hb.size⟩
theorem Mb2.new (w : World) (A : Option Addr) (n c : Nat) (B : Option Addr) (m d T : Nat) : Mb2 ((w.alloc (.cells #[.slice A n c] T)).alloc (.cells #[.slice B m d] T)) w.heap.size A n c B m d := by simp [Mb2, go_sem]
theorem list2 {X Y : World} {v1 v2 : Value} {T : Nat} (h : X.alloc (.cells #[v1, v2] T) = Y) : Y.cell? ⟨X.heap.size, 0, none⟩ = some v1 ∧ Y.cell? ⟨X.heap.size, 1, none⟩ = some v2 ∧ X.heap.size < Y.heap.size := by
  subst h
  simp [go_sem]
theorem all2 (b1 b2 : Bool) : allB (fun i => if i = 0 then b1 else b2) 2 = (b1 && b2) := by
  cases b1 <;> cases b2 <;> rfl


set_option maxRecDepth 100000 in
set_option maxHeartbeats 40000000 in
theorem facts_dark (A : Option Addr) (n c : Nat) (B : Option Addr) (m d : Nat) (L : Option Addr) (q e : Nat) (b1 b2 : Bool) (hb : (b1 && b2) = false) (w : World)
    (HFa : Hid (CV 43 #[.int .i64 40, .agg #[.slice A n c]] (.bool b1) w))
    (HFb : Hid (CV 43 #[.int .i64 40, .agg #[.slice B m d]] (.bool b2) w))
    (HAw : Hid (CV 11 #[] (.bool true) w)) :
    Calls Tryz.prog 3 #[.agg #[.slice A n c], .agg #[.slice B m d], .slice L q e] w fun e w' => e = .returned (.bool true) ∧ Below w.heap.size w w' := by
  go_enter Tryz.func3, Tryz.ntmps3
  go_upto_region 1 with fail
  generalize hX : (World.alloc (World.alloc w _) _) = X
  have HX : Hid (Below w.heap.size w X) := by rw [← hX]; exact (below_alloc _ _).trans ((below_alloc _ _).mono (by simp))
  have KX : Hid (Mb2 X w.heap.size A n c B m d) := by rw [← hX]; exact Mb2.new _ _ _ _ _ _ _ _
  clear hX
  obtain ⟨k0, k1, -⟩ := KX.out
  go_wp2_with fail
  clear k0 k1
  generalize hY : X.alloc _ = Y
  have HY : Hid (Below w.heap.size w Y) := by rw [← hY]; exact Lib.hid (HX.out.trans ((below_alloc X _).mono HX.out.size))
  have KY : Hid (Mb2 Y w.heap.size A n c B m d) := by rw [← hY]; exact Lib.hid (KX.out.keep (below_alloc _ _))
  obtain ⟨y0, y1, y2⟩ := list2 hY
  clear hY HX KX
  have HLs : Hid (∀ i, i < 2 → Y.cell? ⟨X.heap.size, i, none⟩ = some (.slice ((fun i => if i = 0 then A else B) i) ((fun i => if i = 0 then n else m) i) ((fun i => if i = 0 then c else d) i))) := fun i hi => by
    rcases (show i = 0 ∨ i = 1 by omega) with rfl | rfl
    · exact y0
    · exact y1
  have HFs : Hid (∀ i, i < 2 → CV 43 #[.int .i64 40, .agg #[.slice ((fun i => if i = 0 then A else B) i) ((fun i => if i = 0 then n else m) i) ((fun i => if i = 0 then c else d) i)]] (.bool ((fun i => if i = 0 then b1 else b2) i)) Y) := fun i hi => by
    rcases (show i = 0 ∨ i = 1 by omega) with rfl | rfl
    · exact HFa.out.keep HY.out
    · exact HFb.out.keep HY.out
  (with_reducible refine (lfew_any X.heap.size 2 (fun i => if i = 0 then A else B) (fun i => if i = 0 then n else m) (fun i => if i = 0 then c else d) (fun i => if i = 0 then b1 else b2) Y (by omega) y2 HLs HFs).mono ?_)
  rintro e w0 ⟨rfl, hB⟩
  rw [all2]
  have H0 := Lib.hid (HY.out.trans (hB.mono HY.out.size))
  have K0 := Lib.hid (KY.out.keep hB)
  clear hB HY KY y0 y1 y2 HFa HFb HLs HFs
  rw [hb]
  go_wp2_with fail
  (with_reducible refine (HAw.out.run H0.out).mono ?_)
  rintro e wz ⟨rfl, hBz⟩
  have CZ := Lib.hid (H0.out.trans (hBz.mono H0.out.size))
  clear hBz
  go_wp2_with fail
  go_ret
  exact ⟨rfl, CZ.out⟩


set_option maxRecDepth 100000 in
set_option maxHeartbeats 40000000 in
theorem facts_long (A : Option Addr) (n c : Nat) (B : Option Addr) (m d : Nat) (L : Option Addr) (q e : Nat) (b1 b2 : Bool) (hb : (b1 && b2) = true) (hq : decide ((60 : Int) < (q : Int)) = true) (w : World)
    (HFa : Hid (CV 43 #[.int .i64 40, .agg #[.slice A n c]] (.bool b1) w))
    (HFb : Hid (CV 43 #[.int .i64 40, .agg #[.slice B m d]] (.bool b2) w))
    (HAw : Hid (CV 11 #[] (.bool true) w)) :
    Calls Tryz.prog 3 #[.agg #[.slice A n c], .agg #[.slice B m d], .slice L q e] w fun e w' => e = .returned (.bool true) ∧ Below w.heap.size w w' := by
  go_enter Tryz.func3, Tryz.ntmps3
  go_upto_region 1 with fail
  generalize hX : (World.alloc (World.alloc w _) _) = X
  have HX : Hid (Below w.heap.size w X) := by rw [← hX]; exact (below_alloc _ _).trans ((below_alloc _ _).mono (by simp))
  have KX : Hid (Mb2 X w.heap.size A n c B m d) := by rw [← hX]; exact Mb2.new _ _ _ _ _ _ _ _
  clear hX
  obtain ⟨k0, k1, -⟩ := KX.out
  go_wp2_with fail
  clear k0 k1
  generalize hY : X.alloc _ = Y
  have HY : Hid (Below w.heap.size w Y) := by rw [← hY]; exact Lib.hid (HX.out.trans ((below_alloc X _).mono HX.out.size))
  have KY : Hid (Mb2 Y w.heap.size A n c B m d) := by rw [← hY]; exact Lib.hid (KX.out.keep (below_alloc _ _))
  obtain ⟨y0, y1, y2⟩ := list2 hY
  clear hY HX KX
  have HLs : Hid (∀ i, i < 2 → Y.cell? ⟨X.heap.size, i, none⟩ = some (.slice ((fun i => if i = 0 then A else B) i) ((fun i => if i = 0 then n else m) i) ((fun i => if i = 0 then c else d) i))) := fun i hi => by
    rcases (show i = 0 ∨ i = 1 by omega) with rfl | rfl
    · exact y0
    · exact y1
  have HFs : Hid (∀ i, i < 2 → CV 43 #[.int .i64 40, .agg #[.slice ((fun i => if i = 0 then A else B) i) ((fun i => if i = 0 then n else m) i) ((fun i => if i = 0 then c else d) i)]] (.bool ((fun i => if i = 0 then b1 else b2) i)) Y) := fun i hi => by
    rcases (show i = 0 ∨ i = 1 by omega) with rfl | rfl
    · exact HFa.out.keep HY.out
    · exact HFb.out.keep HY.out
  (with_reducible refine (lfew_any X.heap.size 2 (fun i => if i = 0 then A else B) (fun i => if i = 0 then n else m) (fun i => if i = 0 then c else d) (fun i => if i = 0 then b1 else b2) Y (by omega) y2 HLs HFs).mono ?_)
  rintro e w0 ⟨rfl, hB⟩
  rw [all2]
  have H0 := Lib.hid (HY.out.trans (hB.mono HY.out.size))
  have K0 := Lib.hid (KY.out.keep hB)
  clear hB HY KY y0 y1 y2 HFa HFb HLs HFs
  rw [hb]
  go_wp2_with fail
  (with_reducible refine (HAw.out.run H0.out).mono ?_)
  rintro e wz ⟨rfl, hBz⟩
  have CZ := Lib.hid (H0.out.trans (hBz.mono H0.out.size))
  clear hBz
  go_wp2_with fail
  go_ret
  exact ⟨rfl, CZ.out⟩


set_option maxRecDepth 100000 in
set_option maxHeartbeats 40000000 in
theorem facts_all (A : Option Addr) (n c : Nat) (B : Option Addr) (m d : Nat) (L : Option Addr) (q e : Nat) (b1 b2 : Bool) (hb : (b1 && b2) = true) (hq : decide ((60 : Int) < (q : Int)) = false) (x1 x2 x3 x4 vv ii : Bool) (y1 y2 y3 y4 : Int) (w : World)
    (HFa : Hid (CV 43 #[.int .i64 40, .agg #[.slice A n c]] (.bool b1) w))
    (HFb : Hid (CV 43 #[.int .i64 40, .agg #[.slice B m d]] (.bool b2) w))
    (R1 : Hid (CV 12 #[.agg #[.slice A n c]] (.tuple #[.bool x1, .int .i64 y1]) w))
    (R2 : Hid (CV 13 #[.agg #[.slice A n c]] (.tuple #[.bool x2, .int .i64 y2]) w))
    (R3 : Hid (CV 14 #[.agg #[.slice A n c], .slice L q e] (.tuple #[.bool x3, .int .i64 y3]) w))
    (R4 : Hid (CV 15 #[.agg #[.slice A n c], .slice L q e] (.tuple #[.bool x4, .int .i64 y4]) w))
    (M1 : Hid (CV 16 #[.agg #[.slice A n c]] (.tuple #[.bool x1, .int .i64 y1]) w))
    (M2 : Hid (CV 17 #[.agg #[.slice A n c]] (.tuple #[.bool x2, .int .i64 y2]) w))
    (M3 : Hid (CV 18 #[.agg #[.slice A n c], .slice L q e] (.tuple #[.bool x3, .int .i64 y3]) w))
    (M4 : Hid (CV 19 #[.agg #[.slice A n c], .slice L q e] (.tuple #[.bool x4, .int .i64 y4]) w))
    (V1 : Hid (CV 20 #[.agg #[.slice A n c]] (.bool vv) w))
    (V2 : Hid (CV 21 #[.agg #[.slice A n c]] (.bool vv) w))
    (I1 : Hid (CV 22 #[.agg #[.slice A n c], .agg #[.slice B m d]] (.bool ii) w))
    (I2 : Hid (CV 23 #[.agg #[.slice A n c], .agg #[.slice B m d]] (.bool ii) w))
    (HAw : Hid (CV 11 #[] (.bool true) w)) :
    Calls Tryz.prog 3 #[.agg #[.slice A n c], .agg #[.slice B m d], .slice L q e] w fun e w' => e = .returned (.bool true) ∧ Below w.heap.size w w' := by
  go_enter Tryz.func3, Tryz.ntmps3
  go_upto_region 1 with fail
  generalize hX : (World.alloc (World.alloc w _) _) = X
  have HX : Hid (Below w.heap.size w X) := by rw [← hX]; exact (below_alloc _ _).trans ((below_alloc _ _).mono (by simp))
  have KX : Hid (Mb2 X w.heap.size A n c B m d) := by rw [← hX]; exact Mb2.new _ _ _ _ _ _ _ _
  clear hX
  obtain ⟨k0, k1, -⟩ := KX.out
  go_wp2_with fail
  clear k0 k1
  generalize hY : X.alloc _ = Y
  have HY : Hid (Below w.heap.size w Y) := by rw [← hY]; exact Lib.hid (HX.out.trans ((below_alloc X _).mono HX.out.size))
  have KY : Hid (Mb2 Y w.heap.size A n c B m d) := by rw [← hY]; exact Lib.hid (KX.out.keep (below_alloc _ _))
  obtain ⟨y0, y1, y2⟩ := list2 hY
  clear hY HX KX
  have HLs : Hid (∀ i, i < 2 → Y.cell? ⟨X.heap.size, i, none⟩ = some (.slice ((fun i => if i = 0 then A else B) i) ((fun i => if i = 0 then n else m) i) ((fun i => if i = 0 then c else d) i))) := fun i hi => by
    rcases (show i = 0 ∨ i = 1 by omega) with rfl | rfl
    · exact y0
    · exact y1
  have HFs : Hid (∀ i, i < 2 → CV 43 #[.int .i64 40, .agg #[.slice ((fun i => if i = 0 then A else B) i) ((fun i => if i = 0 then n else m) i) ((fun i => if i = 0 then c else d) i)]] (.bool ((fun i => if i = 0 then b1 else b2) i)) Y) := fun i hi => by
    rcases (show i = 0 ∨ i = 1 by omega) with rfl | rfl
    · exact HFa.out.keep HY.out
    · exact HFb.out.keep HY.out
  (with_reducible refine (lfew_any X.heap.size 2 (fun i => if i = 0 then A else B) (fun i => if i = 0 then n else m) (fun i => if i = 0 then c else d) (fun i => if i = 0 then b1 else b2) Y (by omega) y2 HLs HFs).mono ?_)
  rintro e w0 ⟨rfl, hB⟩
  rw [all2]
  have H0 := Lib.hid (HY.out.trans (hB.mono HY.out.size))
  have K0 := Lib.hid (KY.out.keep hB)
  clear hB HY KY y0 y1 y2 HFa HFb HLs HFs
  rw [hb]
  obtain ⟨k0, k1, -⟩ := K0.out
  go_wp2_with fail
  clear k0 k1
  (with_reducible refine (R1.out.run H0.out).mono ?_)
  rintro e w1 ⟨rfl, hB⟩
  have H1 := Lib.hid (H0.out.trans (hB.mono H0.out.size))
  have K1 := Lib.hid (K0.out.keep hB)
  clear hB H0 K0 R1
  obtain ⟨k0, k1, -⟩ := K1.out
  go_wp2_with fail
  clear k0 k1
  (with_reducible refine (R2.out.run H1.out).mono ?_)
  rintro e w2 ⟨rfl, hB⟩
  have H2 := Lib.hid (H1.out.trans (hB.mono H1.out.size))
  have K2 := Lib.hid (K1.out.keep hB)
  clear hB H1 K1 R2
  obtain ⟨k0, k1, -⟩ := K2.out
  go_wp2_with fail
  clear k0 k1
  (with_reducible refine (R3.out.run H2.out).mono ?_)
  rintro e w3 ⟨rfl, hB⟩
  have H3 := Lib.hid (H2.out.trans (hB.mono H2.out.size))
  have K3 := Lib.hid (K2.out.keep hB)
  clear hB H2 K2 R3
  obtain ⟨k0, k1, -⟩ := K3.out
  go_wp2_with fail
  clear k0 k1
  (with_reducible refine (R4.out.run H3.out).mono ?_)
  rintro e w4 ⟨rfl, hB⟩
  have H4 := Lib.hid (H3.out.trans (hB.mono H3.out.size))
  have K4 := Lib.hid (K3.out.keep hB)
  clear hB H3 K3 R4
  obtain ⟨k0, k1, -⟩ := K4.out
  go_wp2_with fail
  clear k0 k1
  (with_reducible refine (M1.out.run H4.out).mono ?_)
  rintro e w5 ⟨rfl, hB⟩
  have H5 := Lib.hid (H4.out.trans (hB.mono H4.out.size))
  have K5 := Lib.hid (K4.out.keep hB)
  clear hB H4 K4 M1
  obtain ⟨k0, k1, -⟩ := K5.out
  go_wp2_with fail
  clear k0 k1
  (with_reducible refine (M2.out.run H5.out).mono ?_)
  rintro e w6 ⟨rfl, hB⟩
  have H6 := Lib.hid (H5.out.trans (hB.mono H5.out.size))
  have K6 := Lib.hid (K5.out.keep hB)
  clear hB H5 K5 M2
  obtain ⟨k0, k1, -⟩ := K6.out
  go_wp2_with fail
  clear k0 k1
  (with_reducible refine (M3.out.run H6.out).mono ?_)
  rintro e w7 ⟨rfl, hB⟩
  have H7 := Lib.hid (H6.out.trans (hB.mono H6.out.size))
  have K7 := Lib.hid (K6.out.keep hB)
  clear hB H6 K6 M3
  obtain ⟨k0, k1, -⟩ := K7.out
  go_wp2_with fail
  clear k0 k1
  (with_reducible refine (M4.out.run H7.out).mono ?_)
  rintro e w8 ⟨rfl, hB⟩
  have H8 := Lib.hid (H7.out.trans (hB.mono H7.out.size))
  have K8 := Lib.hid (K7.out.keep hB)
  clear hB H7 K7 M4
  go_upto_region 11 with fail
  refine wp_region_flow 58 [78, 79, 80, 81, 82, 83, 84, 85, 86, 87, 88, 89, 90, 91, 92, 93, 94, 95, 96, 97, 98, 99, 100, 101, 102, 103, 104, 105, 106, 107, 108, 109, 110, 111, 112, 113, 114, 115, 116, 117, 118, 119, 120, 121, 122, 123, 124, 125, 126, 127, 128, 129, 130, 131, 132, 133, 134, 6] (fun i => if i = 57 then 6 else 78 + i) (fun wx => Below w.heap.size w wx ∧ Mb2 wx w.heap.size A n c B m d) (Spl [.val (.agg #[.slice A n c]), .val (.bool vv), .val (.agg #[.slice A n c]), .val (.bool vv), .val (.bool true), .val (.bool true), .val (.bool x1), .val (.bool x1), .val (.bool true), .val (.bool true), .val (.bool true), .val (.int .i64 y1), .val (.int .i64 y1), .val (.bool true), .val (.bool true), .val (.bool true), .val (.bool x2), .val (.bool x2), .val (.bool true), .val (.bool true), .val (.bool true), .val (.int .i64 y2), .val (.int .i64 y2), .val (.bool true), .val (.bool true), .val (.bool true), .val (.bool x3), .val (.bool x3), .val (.bool true), .val (.bool true), .val (.bool true), .val (.int .i64 y3), .val (.int .i64 y3), .val (.bool true), .val (.bool true), .val (.bool true), .val (.bool x4), .val (.bool x4), .val (.bool true), .val (.bool true), .val (.bool true), .val (.int .i64 y4), .val (.int .i64 y4), .val (.bool true), .val (.bool true), .val (.bool true), .val (.agg #[.slice A n c]), .val (.agg #[.slice B m d]), .val (.bool ii), .val (.agg #[.slice A n c]), .val (.agg #[.slice B m d]), .val (.bool ii), .val (.bool true), .val (.bool true), .val (.bool true), .val (.bool true), .val (.bool true), .val (.bool true)]) (by kernel_rfl) (by kernel_rfl) (by kernel_rfl) (by kernel_rfl) (fun i j hi hj h => by have h : (if i = 57 then 6 else 78 + i) = (if j = 57 then 6 else 78 + j) := h; split at h <;> split at h <;> omega) (by decide) (fun _ _ h hb => ⟨h.1.trans (hb.mono h.1.size), h.2.keep hb⟩) Spl.keep ?_ ?_ ?_
  · exact ⟨Below.drew H8.out, K8.out⟩
  · intro i v wx o T' K ho hF hdep hin hout hK
    have hi : i < 58 := (Array.getElem?_eq_some_iff.1 ho).1
    have q78 := hin 78 (by decide)
    have q79 := hin 79 (by decide)
    have q80 := hin 80 (by decide)
    have q81 := hin 81 (by decide)
    have q82 := hin 82 (by decide)
    have q83 := hin 83 (by decide)
    have q84 := hin 84 (by decide)
    have q85 := hin 85 (by decide)
    have q86 := hin 86 (by decide)
    have q87 := hin 87 (by decide)
    have q88 := hin 88 (by decide)
    have q89 := hin 89 (by decide)
    have q90 := hin 90 (by decide)
    have q91 := hin 91 (by decide)
    have q92 := hin 92 (by decide)
    have q93 := hin 93 (by decide)
    have q94 := hin 94 (by decide)
    have q95 := hin 95 (by decide)
    have q96 := hin 96 (by decide)
    have q97 := hin 97 (by decide)
    have q98 := hin 98 (by decide)
    have q99 := hin 99 (by decide)
    have q100 := hin 100 (by decide)
    have q101 := hin 101 (by decide)
    have q102 := hin 102 (by decide)
    have q103 := hin 103 (by decide)
    have q104 := hin 104 (by decide)
    have q105 := hin 105 (by decide)
    have q106 := hin 106 (by decide)
    have q107 := hin 107 (by decide)
    have q108 := hin 108 (by decide)
    have q109 := hin 109 (by decide)
    have q110 := hin 110 (by decide)
    have q111 := hin 111 (by decide)
    have q112 := hin 112 (by decide)
    have q113 := hin 113 (by decide)
    have q114 := hin 114 (by decide)
    have q115 := hin 115 (by decide)
    have q116 := hin 116 (by decide)
    have q117 := hin 117 (by decide)
    have q118 := hin 118 (by decide)
    have q119 := hin 119 (by decide)
    have q120 := hin 120 (by decide)
    have q121 := hin 121 (by decide)
    have q122 := hin 122 (by decide)
    have q123 := hin 123 (by decide)
    have q124 := hin 124 (by decide)
    have q125 := hin 125 (by decide)
    have q126 := hin 126 (by decide)
    have q127 := hin 127 (by decide)
    have q128 := hin 128 (by decide)
    have q129 := hin 129 (by decide)
    have q130 := hin 130 (by decide)
    have q131 := hin 131 (by decide)
    have q132 := hin 132 (by decide)
    have q133 := hin 133 (by decide)
    have q134 := hin 134 (by decide)
    have q6 := hin 6 (by decide)
    have sl3 : T'[3]? = some (.pointer (some ⟨w.heap.size, 0, none⟩)) := (hout 3 (by decide)).trans rfl
    have sl4 : T'[4]? = some (.pointer (some ⟨w.heap.size + 1, 0, none⟩)) := (hout 4 (by decide)).trans rfl
    have sl7 : T'[7]? = some (.bool x1) := (hout 7 (by decide)).trans rfl
    have sl8 : T'[8]? = some (.int .i64 y1) := (hout 8 (by decide)).trans rfl
    have sl9 : T'[9]? = some (.bool x2) := (hout 9 (by decide)).trans rfl
    have sl10 : T'[10]? = some (.int .i64 y2) := (hout 10 (by decide)).trans rfl
    have sl11 : T'[11]? = some (.bool x3) := (hout 11 (by decide)).trans rfl
    have sl12 : T'[12]? = some (.int .i64 y3) := (hout 12 (by decide)).trans rfl
    have sl13 : T'[13]? = some (.bool x4) := (hout 13 (by decide)).trans rfl
    have sl14 : T'[14]? = some (.int .i64 y4) := (hout 14 (by decide)).trans rfl
    have sl15 : T'[15]? = some (.bool x1) := (hout 15 (by decide)).trans rfl
    have sl16 : T'[16]? = some (.int .i64 y1) := (hout 16 (by decide)).trans rfl
    have sl17 : T'[17]? = some (.bool x2) := (hout 17 (by decide)).trans rfl
    have sl18 : T'[18]? = some (.int .i64 y2) := (hout 18 (by decide)).trans rfl
    have sl19 : T'[19]? = some (.bool x3) := (hout 19 (by decide)).trans rfl
    have sl20 : T'[20]? = some (.int .i64 y3) := (hout 20 (by decide)).trans rfl
    have sl21 : T'[21]? = some (.bool x4) := (hout 21 (by decide)).trans rfl
    have sl22 : T'[22]? = some (.int .i64 y4) := (hout 22 (by decide)).trans rfl
    clear hin hout
    have HF := Lib.hid hF
    have HD := Lib.hid hdep
    clear hF hdep
    rcases (by omega : i = 0 ∨ i = 1 ∨ i = 2 ∨ i = 3 ∨ i = 4 ∨ i = 5 ∨ i = 6 ∨ i = 7 ∨ i = 8 ∨ i = 9 ∨ i = 10 ∨ i = 11 ∨ i = 12 ∨ i = 13 ∨ i = 14 ∨ i = 15 ∨ i = 16 ∨ i = 17 ∨ i = 18 ∨ i = 19 ∨ i = 20 ∨ i = 21 ∨ i = 22 ∨ i = 23 ∨ i = 24 ∨ i = 25 ∨ i = 26 ∨ i = 27 ∨ i = 28 ∨ i = 29 ∨ i = 30 ∨ i = 31 ∨ i = 32 ∨ i = 33 ∨ i = 34 ∨ i = 35 ∨ i = 36 ∨ i = 37 ∨ i = 38 ∨ i = 39 ∨ i = 40 ∨ i = 41 ∨ i = 42 ∨ i = 43 ∨ i = 44 ∨ i = 45 ∨ i = 46 ∨ i = 47 ∨ i = 48 ∨ i = 49 ∨ i = 50 ∨ i = 51 ∨ i = 52 ∨ i = 53 ∨ i = 54 ∨ i = 55 ∨ i = 56 ∨ i = 57) with rfl | rfl | rfl | rfl | rfl | rfl | rfl | rfl | rfl | rfl | rfl | rfl | rfl | rfl | rfl | rfl | rfl | rfl | rfl | rfl | rfl | rfl | rfl | rfl | rfl | rfl | rfl | rfl | rfl | rfl | rfl | rfl | rfl | rfl | rfl | rfl | rfl | rfl | rfl | rfl | rfl | rfl | rfl | rfl | rfl | rfl | rfl | rfl | rfl | rfl | rfl | rfl | rfl | rfl | rfl | rfl | rfl | rfl
    · obtain rfl := Option.some.inj ho
      obtain ⟨k0, k1, -⟩ := HF.out.2
      have hP := (rfl : Value.agg #[.slice A n c] = .agg #[.slice A n c])
      clear q78 q79 q80 q81 q82 q83 q84 q85 q86 q87 q88 q89 q90 q91 q92 q93 q94 q95 q96 q97 q98 q99 q100 q101 q102 q103 q104 q105 q106 q107 q108 q109 q110 q111 q112 q113 q114 q115 q116 q117 q118 q119 q120 q121 q122 q123 q124 q125 q126 q127 q128 q129 q130 q131 q132 q133 q134 q6 sl4 sl7 sl8 sl9 sl10 sl11 sl12 sl13 sl14 sl15 sl16 sl17 sl18 sl19 sl20 sl21 sl22 ho hi
      go_simp
      exact hK _ _ (Below.refl _ _) hP
    · obtain rfl := Option.some.inj ho
      have e0 : v 78 = (.agg #[.slice A n c]) := HD.out ⟨0, .data⟩ (by simp) rfl
      rw [e0] at q78
      clear q79 q80 q81 q82 q83 q84 q85 q86 q87 q88 q89 q90 q91 q92 q93 q94 q95 q96 q97 q98 q99 q100 q101 q102 q103 q104 q105 q106 q107 q108 q109 q110 q111 q112 q113 q114 q115 q116 q117 q118 q119 q120 q121 q122 q123 q124 q125 q126 q127 q128 q129 q130 q131 q132 q133 q134 q6 sl3 sl4 sl7 sl8 sl9 sl10 sl11 sl12 sl13 sl14 sl15 sl16 sl17 sl18 sl19 sl20 sl21 sl22 ho hi
      go_simp
      (with_reducible refine (V1.out.run HF.out.1).mono ?_)
      rintro e w2 ⟨rfl, hB⟩
      exact hK _ _ hB rfl
    · obtain rfl := Option.some.inj ho
      obtain ⟨k0, k1, -⟩ := HF.out.2
      have hP := (rfl : Value.agg #[.slice A n c] = .agg #[.slice A n c])
      clear q78 q79 q80 q81 q82 q83 q84 q85 q86 q87 q88 q89 q90 q91 q92 q93 q94 q95 q96 q97 q98 q99 q100 q101 q102 q103 q104 q105 q106 q107 q108 q109 q110 q111 q112 q113 q114 q115 q116 q117 q118 q119 q120 q121 q122 q123 q124 q125 q126 q127 q128 q129 q130 q131 q132 q133 q134 q6 sl4 sl7 sl8 sl9 sl10 sl11 sl12 sl13 sl14 sl15 sl16 sl17 sl18 sl19 sl20 sl21 sl22 ho hi
      go_simp
      exact hK _ _ (Below.refl _ _) hP
    · obtain rfl := Option.some.inj ho
      have e0 : v 80 = (.agg #[.slice A n c]) := HD.out ⟨2, .data⟩ (by simp) rfl
      rw [e0] at q80
      clear q78 q79 q81 q82 q83 q84 q85 q86 q87 q88 q89 q90 q91 q92 q93 q94 q95 q96 q97 q98 q99 q100 q101 q102 q103 q104 q105 q106 q107 q108 q109 q110 q111 q112 q113 q114 q115 q116 q117 q118 q119 q120 q121 q122 q123 q124 q125 q126 q127 q128 q129 q130 q131 q132 q133 q134 q6 sl3 sl4 sl7 sl8 sl9 sl10 sl11 sl12 sl13 sl14 sl15 sl16 sl17 sl18 sl19 sl20 sl21 sl22 ho hi
      go_simp
      (with_reducible refine (V2.out.run HF.out.1).mono ?_)
      rintro e w2 ⟨rfl, hB⟩
      exact hK _ _ hB rfl
    · obtain rfl := Option.some.inj ho
      have e0 : v 79 = (.bool vv) := HD.out ⟨1, .data⟩ (by simp) rfl
      rw [e0] at q79
      have e1 : v 81 = (.bool vv) := HD.out ⟨3, .data⟩ (by simp) rfl
      rw [e1] at q81
      clear q78 q80 q82 q83 q84 q85 q86 q87 q88 q89 q90 q91 q92 q93 q94 q95 q96 q97 q98 q99 q100 q101 q102 q103 q104 q105 q106 q107 q108 q109 q110 q111 q112 q113 q114 q115 q116 q117 q118 q119 q120 q121 q122 q123 q124 q125 q126 q127 q128 q129 q130 q131 q132 q133 q134 q6 sl3 sl4 sl7 sl8 sl9 sl10 sl11 sl12 sl13 sl14 sl15 sl16 sl17 sl18 sl19 sl20 sl21 sl22 ho hi
      go_simp
      try rw [beq_self_eq_true]
      exact hK _ _ (Below.refl _ _) rfl
    · obtain rfl := Option.some.inj ho
      have e0 : v 82 = (.bool true) := HD.out ⟨4, .data⟩ (by simp) rfl
      rw [e0] at q82
      clear q78 q79 q80 q81 q83 q84 q85 q86 q87 q88 q89 q90 q91 q92 q93 q94 q95 q96 q97 q98 q99 q100 q101 q102 q103 q104 q105 q106 q107 q108 q109 q110 q111 q112 q113 q114 q115 q116 q117 q118 q119 q120 q121 q122 q123 q124 q125 q126 q127 q128 q129 q130 q131 q132 q133 q134 q6 sl3 sl4 sl7 sl8 sl9 sl10 sl11 sl12 sl13 sl14 sl15 sl16 sl17 sl18 sl19 sl20 sl21 sl22 ho hi
      go_simp
      exact hK _ _ (Below.refl _ _) rfl
    · obtain rfl := Option.some.inj ho
      have eg : v 83 = (.bool true) := HD.out ⟨5, .guard⟩ (by simp) rfl
      rw [eg] at q83
      clear q78 q79 q80 q81 q82 q84 q85 q86 q87 q88 q89 q90 q91 q92 q93 q94 q95 q96 q97 q98 q99 q100 q101 q102 q103 q104 q105 q106 q107 q108 q109 q110 q111 q112 q113 q114 q115 q116 q117 q118 q119 q120 q121 q122 q123 q124 q125 q126 q127 q128 q129 q130 q131 q132 q133 q134 q6 sl3 sl4 sl7 sl8 sl9 sl10 sl11 sl12 sl13 sl14 sl16 sl17 sl18 sl19 sl20 sl21 sl22 ho hi
      go_simp
      exact hK _ _ (Below.refl _ _) rfl
    · obtain rfl := Option.some.inj ho
      have eg : v 83 = (.bool true) := HD.out ⟨5, .guard⟩ (by simp) rfl
      rw [eg] at q83
      clear q78 q79 q80 q81 q82 q84 q85 q86 q87 q88 q89 q90 q91 q92 q93 q94 q95 q96 q97 q98 q99 q100 q101 q102 q103 q104 q105 q106 q107 q108 q109 q110 q111 q112 q113 q114 q115 q116 q117 q118 q119 q120 q121 q122 q123 q124 q125 q126 q127 q128 q129 q130 q131 q132 q133 q134 q6 sl3 sl4 sl8 sl9 sl10 sl11 sl12 sl13 sl14 sl15 sl16 sl17 sl18 sl19 sl20 sl21 sl22 ho hi
      go_simp
      exact hK _ _ (Below.refl _ _) rfl
    · obtain rfl := Option.some.inj ho
      have eg : v 83 = (.bool true) := HD.out ⟨5, .guard⟩ (by simp) rfl
      rw [eg] at q83
      have e0 : v 84 = (.bool x1) := HD.out ⟨6, .data⟩ (by simp) rfl
      rw [e0] at q84
      have e1 : v 85 = (.bool x1) := HD.out ⟨7, .data⟩ (by simp) rfl
      rw [e1] at q85
      clear q78 q79 q80 q81 q82 q86 q87 q88 q89 q90 q91 q92 q93 q94 q95 q96 q97 q98 q99 q100 q101 q102 q103 q104 q105 q106 q107 q108 q109 q110 q111 q112 q113 q114 q115 q116 q117 q118 q119 q120 q121 q122 q123 q124 q125 q126 q127 q128 q129 q130 q131 q132 q133 q134 q6 sl3 sl4 sl7 sl8 sl9 sl10 sl11 sl12 sl13 sl14 sl15 sl16 sl17 sl18 sl19 sl20 sl21 sl22 ho hi
      go_simp
      try rw [beq_self_eq_true]
      try simp only [beq_self_eq_true, Bool.and_self, Bool.true_and, Bool.and_true]
      exact hK _ _ (Below.refl _ _) rfl
    · obtain rfl := Option.some.inj ho
      have e0 : v 83 = (.bool true) := HD.out ⟨5, .data⟩ (by simp) rfl
      rw [e0] at q83
      have e1 : v 86 = (.bool true) := HD.out ⟨8, .data⟩ (by simp) rfl
      rw [e1] at q86
      clear q78 q79 q80 q81 q82 q84 q85 q87 q88 q89 q90 q91 q92 q93 q94 q95 q96 q97 q98 q99 q100 q101 q102 q103 q104 q105 q106 q107 q108 q109 q110 q111 q112 q113 q114 q115 q116 q117 q118 q119 q120 q121 q122 q123 q124 q125 q126 q127 q128 q129 q130 q131 q132 q133 q134 q6 sl3 sl4 sl7 sl8 sl9 sl10 sl11 sl12 sl13 sl14 sl15 sl16 sl17 sl18 sl19 sl20 sl21 sl22 ho hi
      go_simp
      exact hK _ _ (Below.refl _ _) rfl
    · obtain rfl := Option.some.inj ho
      have e0 : v 87 = (.bool true) := HD.out ⟨9, .data⟩ (by simp) rfl
      rw [e0] at q87
      clear q78 q79 q80 q81 q82 q83 q84 q85 q86 q88 q89 q90 q91 q92 q93 q94 q95 q96 q97 q98 q99 q100 q101 q102 q103 q104 q105 q106 q107 q108 q109 q110 q111 q112 q113 q114 q115 q116 q117 q118 q119 q120 q121 q122 q123 q124 q125 q126 q127 q128 q129 q130 q131 q132 q133 q134 q6 sl3 sl4 sl7 sl8 sl9 sl10 sl11 sl12 sl13 sl14 sl15 sl16 sl17 sl18 sl19 sl20 sl21 sl22 ho hi
      go_simp
      exact hK _ _ (Below.refl _ _) rfl
    · obtain rfl := Option.some.inj ho
      have eg : v 88 = (.bool true) := HD.out ⟨10, .guard⟩ (by simp) rfl
      rw [eg] at q88
      clear q78 q79 q80 q81 q82 q83 q84 q85 q86 q87 q89 q90 q91 q92 q93 q94 q95 q96 q97 q98 q99 q100 q101 q102 q103 q104 q105 q106 q107 q108 q109 q110 q111 q112 q113 q114 q115 q116 q117 q118 q119 q120 q121 q122 q123 q124 q125 q126 q127 q128 q129 q130 q131 q132 q133 q134 q6 sl3 sl4 sl7 sl8 sl9 sl10 sl11 sl12 sl13 sl14 sl15 sl17 sl18 sl19 sl20 sl21 sl22 ho hi
      go_simp
      exact hK _ _ (Below.refl _ _) rfl
    · obtain rfl := Option.some.inj ho
      have eg : v 88 = (.bool true) := HD.out ⟨10, .guard⟩ (by simp) rfl
      rw [eg] at q88
      clear q78 q79 q80 q81 q82 q83 q84 q85 q86 q87 q89 q90 q91 q92 q93 q94 q95 q96 q97 q98 q99 q100 q101 q102 q103 q104 q105 q106 q107 q108 q109 q110 q111 q112 q113 q114 q115 q116 q117 q118 q119 q120 q121 q122 q123 q124 q125 q126 q127 q128 q129 q130 q131 q132 q133 q134 q6 sl3 sl4 sl7 sl9 sl10 sl11 sl12 sl13 sl14 sl15 sl16 sl17 sl18 sl19 sl20 sl21 sl22 ho hi
      go_simp
      exact hK _ _ (Below.refl _ _) rfl
    · obtain rfl := Option.some.inj ho
      have eg : v 88 = (.bool true) := HD.out ⟨10, .guard⟩ (by simp) rfl
      rw [eg] at q88
      have e0 : v 89 = (.int .i64 y1) := HD.out ⟨11, .data⟩ (by simp) rfl
      rw [e0] at q89
      have e1 : v 90 = (.int .i64 y1) := HD.out ⟨12, .data⟩ (by simp) rfl
      rw [e1] at q90
      clear q78 q79 q80 q81 q82 q83 q84 q85 q86 q87 q91 q92 q93 q94 q95 q96 q97 q98 q99 q100 q101 q102 q103 q104 q105 q106 q107 q108 q109 q110 q111 q112 q113 q114 q115 q116 q117 q118 q119 q120 q121 q122 q123 q124 q125 q126 q127 q128 q129 q130 q131 q132 q133 q134 q6 sl3 sl4 sl7 sl8 sl9 sl10 sl11 sl12 sl13 sl14 sl15 sl16 sl17 sl18 sl19 sl20 sl21 sl22 ho hi
      go_simp
      try rw [beq_self_eq_true]
      try simp only [beq_self_eq_true, Bool.and_self, Bool.true_and, Bool.and_true]
      exact hK _ _ (Below.refl _ _) rfl
    · obtain rfl := Option.some.inj ho
      have e0 : v 88 = (.bool true) := HD.out ⟨10, .data⟩ (by simp) rfl
      rw [e0] at q88
      have e1 : v 91 = (.bool true) := HD.out ⟨13, .data⟩ (by simp) rfl
      rw [e1] at q91
      clear q78 q79 q80 q81 q82 q83 q84 q85 q86 q87 q89 q90 q92 q93 q94 q95 q96 q97 q98 q99 q100 q101 q102 q103 q104 q105 q106 q107 q108 q109 q110 q111 q112 q113 q114 q115 q116 q117 q118 q119 q120 q121 q122 q123 q124 q125 q126 q127 q128 q129 q130 q131 q132 q133 q134 q6 sl3 sl4 sl7 sl8 sl9 sl10 sl11 sl12 sl13 sl14 sl15 sl16 sl17 sl18 sl19 sl20 sl21 sl22 ho hi
      go_simp
      exact hK _ _ (Below.refl _ _) rfl
    · obtain rfl := Option.some.inj ho
      have e0 : v 92 = (.bool true) := HD.out ⟨14, .data⟩ (by simp) rfl
      rw [e0] at q92
      clear q78 q79 q80 q81 q82 q83 q84 q85 q86 q87 q88 q89 q90 q91 q93 q94 q95 q96 q97 q98 q99 q100 q101 q102 q103 q104 q105 q106 q107 q108 q109 q110 q111 q112 q113 q114 q115 q116 q117 q118 q119 q120 q121 q122 q123 q124 q125 q126 q127 q128 q129 q130 q131 q132 q133 q134 q6 sl3 sl4 sl7 sl8 sl9 sl10 sl11 sl12 sl13 sl14 sl15 sl16 sl17 sl18 sl19 sl20 sl21 sl22 ho hi
      go_simp
      exact hK _ _ (Below.refl _ _) rfl
    · obtain rfl := Option.some.inj ho
      have eg : v 93 = (.bool true) := HD.out ⟨15, .guard⟩ (by simp) rfl
      rw [eg] at q93
      clear q78 q79 q80 q81 q82 q83 q84 q85 q86 q87 q88 q89 q90 q91 q92 q94 q95 q96 q97 q98 q99 q100 q101 q102 q103 q104 q105 q106 q107 q108 q109 q110 q111 q112 q113 q114 q115 q116 q117 q118 q119 q120 q121 q122 q123 q124 q125 q126 q127 q128 q129 q130 q131 q132 q133 q134 q6 sl3 sl4 sl7 sl8 sl9 sl10 sl11 sl12 sl13 sl14 sl15 sl16 sl18 sl19 sl20 sl21 sl22 ho hi
      go_simp
      exact hK _ _ (Below.refl _ _) rfl
    · obtain rfl := Option.some.inj ho
      have eg : v 93 = (.bool true) := HD.out ⟨15, .guard⟩ (by simp) rfl
      rw [eg] at q93
      clear q78 q79 q80 q81 q82 q83 q84 q85 q86 q87 q88 q89 q90 q91 q92 q94 q95 q96 q97 q98 q99 q100 q101 q102 q103 q104 q105 q106 q107 q108 q109 q110 q111 q112 q113 q114 q115 q116 q117 q118 q119 q120 q121 q122 q123 q124 q125 q126 q127 q128 q129 q130 q131 q132 q133 q134 q6 sl3 sl4 sl7 sl8 sl10 sl11 sl12 sl13 sl14 sl15 sl16 sl17 sl18 sl19 sl20 sl21 sl22 ho hi
      go_simp
      exact hK _ _ (Below.refl _ _) rfl
    · obtain rfl := Option.some.inj ho
      have eg : v 93 = (.bool true) := HD.out ⟨15, .guard⟩ (by simp) rfl
      rw [eg] at q93
      have e0 : v 94 = (.bool x2) := HD.out ⟨16, .data⟩ (by simp) rfl
      rw [e0] at q94
      have e1 : v 95 = (.bool x2) := HD.out ⟨17, .data⟩ (by simp) rfl
      rw [e1] at q95
      clear q78 q79 q80 q81 q82 q83 q84 q85 q86 q87 q88 q89 q90 q91 q92 q96 q97 q98 q99 q100 q101 q102 q103 q104 q105 q106 q107 q108 q109 q110 q111 q112 q113 q114 q115 q116 q117 q118 q119 q120 q121 q122 q123 q124 q125 q126 q127 q128 q129 q130 q131 q132 q133 q134 q6 sl3 sl4 sl7 sl8 sl9 sl10 sl11 sl12 sl13 sl14 sl15 sl16 sl17 sl18 sl19 sl20 sl21 sl22 ho hi
      go_simp
      try rw [beq_self_eq_true]
      try simp only [beq_self_eq_true, Bool.and_self, Bool.true_and, Bool.and_true]
      exact hK _ _ (Below.refl _ _) rfl
    · obtain rfl := Option.some.inj ho
      have e0 : v 93 = (.bool true) := HD.out ⟨15, .data⟩ (by simp) rfl
      rw [e0] at q93
      have e1 : v 96 = (.bool true) := HD.out ⟨18, .data⟩ (by simp) rfl
      rw [e1] at q96
      clear q78 q79 q80 q81 q82 q83 q84 q85 q86 q87 q88 q89 q90 q91 q92 q94 q95 q97 q98 q99 q100 q101 q102 q103 q104 q105 q106 q107 q108 q109 q110 q111 q112 q113 q114 q115 q116 q117 q118 q119 q120 q121 q122 q123 q124 q125 q126 q127 q128 q129 q130 q131 q132 q133 q134 q6 sl3 sl4 sl7 sl8 sl9 sl10 sl11 sl12 sl13 sl14 sl15 sl16 sl17 sl18 sl19 sl20 sl21 sl22 ho hi
      go_simp
      exact hK _ _ (Below.refl _ _) rfl
    · obtain rfl := Option.some.inj ho
      have e0 : v 97 = (.bool true) := HD.out ⟨19, .data⟩ (by simp) rfl
      rw [e0] at q97
      clear q78 q79 q80 q81 q82 q83 q84 q85 q86 q87 q88 q89 q90 q91 q92 q93 q94 q95 q96 q98 q99 q100 q101 q102 q103 q104 q105 q106 q107 q108 q109 q110 q111 q112 q113 q114 q115 q116 q117 q118 q119 q120 q121 q122 q123 q124 q125 q126 q127 q128 q129 q130 q131 q132 q133 q134 q6 sl3 sl4 sl7 sl8 sl9 sl10 sl11 sl12 sl13 sl14 sl15 sl16 sl17 sl18 sl19 sl20 sl21 sl22 ho hi
      go_simp
      exact hK _ _ (Below.refl _ _) rfl
    · obtain rfl := Option.some.inj ho
      have eg : v 98 = (.bool true) := HD.out ⟨20, .guard⟩ (by simp) rfl
      rw [eg] at q98
      clear q78 q79 q80 q81 q82 q83 q84 q85 q86 q87 q88 q89 q90 q91 q92 q93 q94 q95 q96 q97 q99 q100 q101 q102 q103 q104 q105 q106 q107 q108 q109 q110 q111 q112 q113 q114 q115 q116 q117 q118 q119 q120 q121 q122 q123 q124 q125 q126 q127 q128 q129 q130 q131 q132 q133 q134 q6 sl3 sl4 sl7 sl8 sl9 sl10 sl11 sl12 sl13 sl14 sl15 sl16 sl17 sl19 sl20 sl21 sl22 ho hi
      go_simp
      exact hK _ _ (Below.refl _ _) rfl
    · obtain rfl := Option.some.inj ho
      have eg : v 98 = (.bool true) := HD.out ⟨20, .guard⟩ (by simp) rfl
      rw [eg] at q98
      clear q78 q79 q80 q81 q82 q83 q84 q85 q86 q87 q88 q89 q90 q91 q92 q93 q94 q95 q96 q97 q99 q100 q101 q102 q103 q104 q105 q106 q107 q108 q109 q110 q111 q112 q113 q114 q115 q116 q117 q118 q119 q120 q121 q122 q123 q124 q125 q126 q127 q128 q129 q130 q131 q132 q133 q134 q6 sl3 sl4 sl7 sl8 sl9 sl11 sl12 sl13 sl14 sl15 sl16 sl17 sl18 sl19 sl20 sl21 sl22 ho hi
      go_simp
      exact hK _ _ (Below.refl _ _) rfl
    · obtain rfl := Option.some.inj ho
      have eg : v 98 = (.bool true) := HD.out ⟨20, .guard⟩ (by simp) rfl
      rw [eg] at q98
      have e0 : v 99 = (.int .i64 y2) := HD.out ⟨21, .data⟩ (by simp) rfl
      rw [e0] at q99
      have e1 : v 100 = (.int .i64 y2) := HD.out ⟨22, .data⟩ (by simp) rfl
      rw [e1] at q100
      clear q78 q79 q80 q81 q82 q83 q84 q85 q86 q87 q88 q89 q90 q91 q92 q93 q94 q95 q96 q97 q101 q102 q103 q104 q105 q106 q107 q108 q109 q110 q111 q112 q113 q114 q115 q116 q117 q118 q119 q120 q121 q122 q123 q124 q125 q126 q127 q128 q129 q130 q131 q132 q133 q134 q6 sl3 sl4 sl7 sl8 sl9 sl10 sl11 sl12 sl13 sl14 sl15 sl16 sl17 sl18 sl19 sl20 sl21 sl22 ho hi
      go_simp
      try rw [beq_self_eq_true]
      try simp only [beq_self_eq_true, Bool.and_self, Bool.true_and, Bool.and_true]
      exact hK _ _ (Below.refl _ _) rfl
    · obtain rfl := Option.some.inj ho
      have e0 : v 98 = (.bool true) := HD.out ⟨20, .data⟩ (by simp) rfl
      rw [e0] at q98
      have e1 : v 101 = (.bool true) := HD.out ⟨23, .data⟩ (by simp) rfl
      rw [e1] at q101
      clear q78 q79 q80 q81 q82 q83 q84 q85 q86 q87 q88 q89 q90 q91 q92 q93 q94 q95 q96 q97 q99 q100 q102 q103 q104 q105 q106 q107 q108 q109 q110 q111 q112 q113 q114 q115 q116 q117 q118 q119 q120 q121 q122 q123 q124 q125 q126 q127 q128 q129 q130 q131 q132 q133 q134 q6 sl3 sl4 sl7 sl8 sl9 sl10 sl11 sl12 sl13 sl14 sl15 sl16 sl17 sl18 sl19 sl20 sl21 sl22 ho hi
      go_simp
      exact hK _ _ (Below.refl _ _) rfl
    · obtain rfl := Option.some.inj ho
      have e0 : v 102 = (.bool true) := HD.out ⟨24, .data⟩ (by simp) rfl
      rw [e0] at q102
      clear q78 q79 q80 q81 q82 q83 q84 q85 q86 q87 q88 q89 q90 q91 q92 q93 q94 q95 q96 q97 q98 q99 q100 q101 q103 q104 q105 q106 q107 q108 q109 q110 q111 q112 q113 q114 q115 q116 q117 q118 q119 q120 q121 q122 q123 q124 q125 q126 q127 q128 q129 q130 q131 q132 q133 q134 q6 sl3 sl4 sl7 sl8 sl9 sl10 sl11 sl12 sl13 sl14 sl15 sl16 sl17 sl18 sl19 sl20 sl21 sl22 ho hi
      go_simp
      exact hK _ _ (Below.refl _ _) rfl
    · obtain rfl := Option.some.inj ho
      have eg : v 103 = (.bool true) := HD.out ⟨25, .guard⟩ (by simp) rfl
      rw [eg] at q103
      clear q78 q79 q80 q81 q82 q83 q84 q85 q86 q87 q88 q89 q90 q91 q92 q93 q94 q95 q96 q97 q98 q99 q100 q101 q102 q104 q105 q106 q107 q108 q109 q110 q111 q112 q113 q114 q115 q116 q117 q118 q119 q120 q121 q122 q123 q124 q125 q126 q127 q128 q129 q130 q131 q132 q133 q134 q6 sl3 sl4 sl7 sl8 sl9 sl10 sl11 sl12 sl13 sl14 sl15 sl16 sl17 sl18 sl20 sl21 sl22 ho hi
      go_simp
      exact hK _ _ (Below.refl _ _) rfl
    · obtain rfl := Option.some.inj ho
      have eg : v 103 = (.bool true) := HD.out ⟨25, .guard⟩ (by simp) rfl
      rw [eg] at q103
      clear q78 q79 q80 q81 q82 q83 q84 q85 q86 q87 q88 q89 q90 q91 q92 q93 q94 q95 q96 q97 q98 q99 q100 q101 q102 q104 q105 q106 q107 q108 q109 q110 q111 q112 q113 q114 q115 q116 q117 q118 q119 q120 q121 q122 q123 q124 q125 q126 q127 q128 q129 q130 q131 q132 q133 q134 q6 sl3 sl4 sl7 sl8 sl9 sl10 sl12 sl13 sl14 sl15 sl16 sl17 sl18 sl19 sl20 sl21 sl22 ho hi
      go_simp
      exact hK _ _ (Below.refl _ _) rfl
    · obtain rfl := Option.some.inj ho
      have eg : v 103 = (.bool true) := HD.out ⟨25, .guard⟩ (by simp) rfl
      rw [eg] at q103
      have e0 : v 104 = (.bool x3) := HD.out ⟨26, .data⟩ (by simp) rfl
      rw [e0] at q104
      have e1 : v 105 = (.bool x3) := HD.out ⟨27, .data⟩ (by simp) rfl
      rw [e1] at q105
      clear q78 q79 q80 q81 q82 q83 q84 q85 q86 q87 q88 q89 q90 q91 q92 q93 q94 q95 q96 q97 q98 q99 q100 q101 q102 q106 q107 q108 q109 q110 q111 q112 q113 q114 q115 q116 q117 q118 q119 q120 q121 q122 q123 q124 q125 q126 q127 q128 q129 q130 q131 q132 q133 q134 q6 sl3 sl4 sl7 sl8 sl9 sl10 sl11 sl12 sl13 sl14 sl15 sl16 sl17 sl18 sl19 sl20 sl21 sl22 ho hi
      go_simp
      try rw [beq_self_eq_true]
      try simp only [beq_self_eq_true, Bool.and_self, Bool.true_and, Bool.and_true]
      exact hK _ _ (Below.refl _ _) rfl
    · obtain rfl := Option.some.inj ho
      have e0 : v 103 = (.bool true) := HD.out ⟨25, .data⟩ (by simp) rfl
      rw [e0] at q103
      have e1 : v 106 = (.bool true) := HD.out ⟨28, .data⟩ (by simp) rfl
      rw [e1] at q106
      clear q78 q79 q80 q81 q82 q83 q84 q85 q86 q87 q88 q89 q90 q91 q92 q93 q94 q95 q96 q97 q98 q99 q100 q101 q102 q104 q105 q107 q108 q109 q110 q111 q112 q113 q114 q115 q116 q117 q118 q119 q120 q121 q122 q123 q124 q125 q126 q127 q128 q129 q130 q131 q132 q133 q134 q6 sl3 sl4 sl7 sl8 sl9 sl10 sl11 sl12 sl13 sl14 sl15 sl16 sl17 sl18 sl19 sl20 sl21 sl22 ho hi
      go_simp
      exact hK _ _ (Below.refl _ _) rfl
    · obtain rfl := Option.some.inj ho
      have e0 : v 107 = (.bool true) := HD.out ⟨29, .data⟩ (by simp) rfl
      rw [e0] at q107
      clear q78 q79 q80 q81 q82 q83 q84 q85 q86 q87 q88 q89 q90 q91 q92 q93 q94 q95 q96 q97 q98 q99 q100 q101 q102 q103 q104 q105 q106 q108 q109 q110 q111 q112 q113 q114 q115 q116 q117 q118 q119 q120 q121 q122 q123 q124 q125 q126 q127 q128 q129 q130 q131 q132 q133 q134 q6 sl3 sl4 sl7 sl8 sl9 sl10 sl11 sl12 sl13 sl14 sl15 sl16 sl17 sl18 sl19 sl20 sl21 sl22 ho hi
      go_simp
      exact hK _ _ (Below.refl _ _) rfl
    · obtain rfl := Option.some.inj ho
      have eg : v 108 = (.bool true) := HD.out ⟨30, .guard⟩ (by simp) rfl
      rw [eg] at q108
      clear q78 q79 q80 q81 q82 q83 q84 q85 q86 q87 q88 q89 q90 q91 q92 q93 q94 q95 q96 q97 q98 q99 q100 q101 q102 q103 q104 q105 q106 q107 q109 q110 q111 q112 q113 q114 q115 q116 q117 q118 q119 q120 q121 q122 q123 q124 q125 q126 q127 q128 q129 q130 q131 q132 q133 q134 q6 sl3 sl4 sl7 sl8 sl9 sl10 sl11 sl12 sl13 sl14 sl15 sl16 sl17 sl18 sl19 sl21 sl22 ho hi
      go_simp
      exact hK _ _ (Below.refl _ _) rfl
    · obtain rfl := Option.some.inj ho
      have eg : v 108 = (.bool true) := HD.out ⟨30, .guard⟩ (by simp) rfl
      rw [eg] at q108
      clear q78 q79 q80 q81 q82 q83 q84 q85 q86 q87 q88 q89 q90 q91 q92 q93 q94 q95 q96 q97 q98 q99 q100 q101 q102 q103 q104 q105 q106 q107 q109 q110 q111 q112 q113 q114 q115 q116 q117 q118 q119 q120 q121 q122 q123 q124 q125 q126 q127 q128 q129 q130 q131 q132 q133 q134 q6 sl3 sl4 sl7 sl8 sl9 sl10 sl11 sl13 sl14 sl15 sl16 sl17 sl18 sl19 sl20 sl21 sl22 ho hi
      go_simp
      exact hK _ _ (Below.refl _ _) rfl
    · obtain rfl := Option.some.inj ho
      have eg : v 108 = (.bool true) := HD.out ⟨30, .guard⟩ (by simp) rfl
      rw [eg] at q108
      have e0 : v 109 = (.int .i64 y3) := HD.out ⟨31, .data⟩ (by simp) rfl
      rw [e0] at q109
      have e1 : v 110 = (.int .i64 y3) := HD.out ⟨32, .data⟩ (by simp) rfl
      rw [e1] at q110
      clear q78 q79 q80 q81 q82 q83 q84 q85 q86 q87 q88 q89 q90 q91 q92 q93 q94 q95 q96 q97 q98 q99 q100 q101 q102 q103 q104 q105 q106 q107 q111 q112 q113 q114 q115 q116 q117 q118 q119 q120 q121 q122 q123 q124 q125 q126 q127 q128 q129 q130 q131 q132 q133 q134 q6 sl3 sl4 sl7 sl8 sl9 sl10 sl11 sl12 sl13 sl14 sl15 sl16 sl17 sl18 sl19 sl20 sl21 sl22 ho hi
      go_simp
      try rw [beq_self_eq_true]
      try simp only [beq_self_eq_true, Bool.and_self, Bool.true_and, Bool.and_true]
      exact hK _ _ (Below.refl _ _) rfl
    · obtain rfl := Option.some.inj ho
      have e0 : v 108 = (.bool true) := HD.out ⟨30, .data⟩ (by simp) rfl
      rw [e0] at q108
      have e1 : v 111 = (.bool true) := HD.out ⟨33, .data⟩ (by simp) rfl
      rw [e1] at q111
      clear q78 q79 q80 q81 q82 q83 q84 q85 q86 q87 q88 q89 q90 q91 q92 q93 q94 q95 q96 q97 q98 q99 q100 q101 q102 q103 q104 q105 q106 q107 q109 q110 q112 q113 q114 q115 q116 q117 q118 q119 q120 q121 q122 q123 q124 q125 q126 q127 q128 q129 q130 q131 q132 q133 q134 q6 sl3 sl4 sl7 sl8 sl9 sl10 sl11 sl12 sl13 sl14 sl15 sl16 sl17 sl18 sl19 sl20 sl21 sl22 ho hi
      go_simp
      exact hK _ _ (Below.refl _ _) rfl
    · obtain rfl := Option.some.inj ho
      have e0 : v 112 = (.bool true) := HD.out ⟨34, .data⟩ (by simp) rfl
      rw [e0] at q112
      clear q78 q79 q80 q81 q82 q83 q84 q85 q86 q87 q88 q89 q90 q91 q92 q93 q94 q95 q96 q97 q98 q99 q100 q101 q102 q103 q104 q105 q106 q107 q108 q109 q110 q111 q113 q114 q115 q116 q117 q118 q119 q120 q121 q122 q123 q124 q125 q126 q127 q128 q129 q130 q131 q132 q133 q134 q6 sl3 sl4 sl7 sl8 sl9 sl10 sl11 sl12 sl13 sl14 sl15 sl16 sl17 sl18 sl19 sl20 sl21 sl22 ho hi
      go_simp
      exact hK _ _ (Below.refl _ _) rfl
    · obtain rfl := Option.some.inj ho
      have eg : v 113 = (.bool true) := HD.out ⟨35, .guard⟩ (by simp) rfl
      rw [eg] at q113
      clear q78 q79 q80 q81 q82 q83 q84 q85 q86 q87 q88 q89 q90 q91 q92 q93 q94 q95 q96 q97 q98 q99 q100 q101 q102 q103 q104 q105 q106 q107 q108 q109 q110 q111 q112 q114 q115 q116 q117 q118 q119 q120 q121 q122 q123 q124 q125 q126 q127 q128 q129 q130 q131 q132 q133 q134 q6 sl3 sl4 sl7 sl8 sl9 sl10 sl11 sl12 sl13 sl14 sl15 sl16 sl17 sl18 sl19 sl20 sl22 ho hi
      go_simp
      exact hK _ _ (Below.refl _ _) rfl
    · obtain rfl := Option.some.inj ho
      have eg : v 113 = (.bool true) := HD.out ⟨35, .guard⟩ (by simp) rfl
      rw [eg] at q113
      clear q78 q79 q80 q81 q82 q83 q84 q85 q86 q87 q88 q89 q90 q91 q92 q93 q94 q95 q96 q97 q98 q99 q100 q101 q102 q103 q104 q105 q106 q107 q108 q109 q110 q111 q112 q114 q115 q116 q117 q118 q119 q120 q121 q122 q123 q124 q125 q126 q127 q128 q129 q130 q131 q132 q133 q134 q6 sl3 sl4 sl7 sl8 sl9 sl10 sl11 sl12 sl14 sl15 sl16 sl17 sl18 sl19 sl20 sl21 sl22 ho hi
      go_simp
      exact hK _ _ (Below.refl _ _) rfl
    · obtain rfl := Option.some.inj ho
      have eg : v 113 = (.bool true) := HD.out ⟨35, .guard⟩ (by simp) rfl
      rw [eg] at q113
      have e0 : v 114 = (.bool x4) := HD.out ⟨36, .data⟩ (by simp) rfl
      rw [e0] at q114
      have e1 : v 115 = (.bool x4) := HD.out ⟨37, .data⟩ (by simp) rfl
      rw [e1] at q115
      clear q78 q79 q80 q81 q82 q83 q84 q85 q86 q87 q88 q89 q90 q91 q92 q93 q94 q95 q96 q97 q98 q99 q100 q101 q102 q103 q104 q105 q106 q107 q108 q109 q110 q111 q112 q116 q117 q118 q119 q120 q121 q122 q123 q124 q125 q126 q127 q128 q129 q130 q131 q132 q133 q134 q6 sl3 sl4 sl7 sl8 sl9 sl10 sl11 sl12 sl13 sl14 sl15 sl16 sl17 sl18 sl19 sl20 sl21 sl22 ho hi
      go_simp
      try rw [beq_self_eq_true]
      try simp only [beq_self_eq_true, Bool.and_self, Bool.true_and, Bool.and_true]
      exact hK _ _ (Below.refl _ _) rfl
    · obtain rfl := Option.some.inj ho
      have e0 : v 113 = (.bool true) := HD.out ⟨35, .data⟩ (by simp) rfl
      rw [e0] at q113
      have e1 : v 116 = (.bool true) := HD.out ⟨38, .data⟩ (by simp) rfl
      rw [e1] at q116
      clear q78 q79 q80 q81 q82 q83 q84 q85 q86 q87 q88 q89 q90 q91 q92 q93 q94 q95 q96 q97 q98 q99 q100 q101 q102 q103 q104 q105 q106 q107 q108 q109 q110 q111 q112 q114 q115 q117 q118 q119 q120 q121 q122 q123 q124 q125 q126 q127 q128 q129 q130 q131 q132 q133 q134 q6 sl3 sl4 sl7 sl8 sl9 sl10 sl11 sl12 sl13 sl14 sl15 sl16 sl17 sl18 sl19 sl20 sl21 sl22 ho hi
      go_simp
      exact hK _ _ (Below.refl _ _) rfl
    · obtain rfl := Option.some.inj ho
      have e0 : v 117 = (.bool true) := HD.out ⟨39, .data⟩ (by simp) rfl
      rw [e0] at q117
      clear q78 q79 q80 q81 q82 q83 q84 q85 q86 q87 q88 q89 q90 q91 q92 q93 q94 q95 q96 q97 q98 q99 q100 q101 q102 q103 q104 q105 q106 q107 q108 q109 q110 q111 q112 q113 q114 q115 q116 q118 q119 q120 q121 q122 q123 q124 q125 q126 q127 q128 q129 q130 q131 q132 q133 q134 q6 sl3 sl4 sl7 sl8 sl9 sl10 sl11 sl12 sl13 sl14 sl15 sl16 sl17 sl18 sl19 sl20 sl21 sl22 ho hi
      go_simp
      exact hK _ _ (Below.refl _ _) rfl
    · obtain rfl := Option.some.inj ho
      have eg : v 118 = (.bool true) := HD.out ⟨40, .guard⟩ (by simp) rfl
      rw [eg] at q118
      clear q78 q79 q80 q81 q82 q83 q84 q85 q86 q87 q88 q89 q90 q91 q92 q93 q94 q95 q96 q97 q98 q99 q100 q101 q102 q103 q104 q105 q106 q107 q108 q109 q110 q111 q112 q113 q114 q115 q116 q117 q119 q120 q121 q122 q123 q124 q125 q126 q127 q128 q129 q130 q131 q132 q133 q134 q6 sl3 sl4 sl7 sl8 sl9 sl10 sl11 sl12 sl13 sl14 sl15 sl16 sl17 sl18 sl19 sl20 sl21 ho hi
      go_simp
      exact hK _ _ (Below.refl _ _) rfl
    · obtain rfl := Option.some.inj ho
      have eg : v 118 = (.bool true) := HD.out ⟨40, .guard⟩ (by simp) rfl
      rw [eg] at q118
      clear q78 q79 q80 q81 q82 q83 q84 q85 q86 q87 q88 q89 q90 q91 q92 q93 q94 q95 q96 q97 q98 q99 q100 q101 q102 q103 q104 q105 q106 q107 q108 q109 q110 q111 q112 q113 q114 q115 q116 q117 q119 q120 q121 q122 q123 q124 q125 q126 q127 q128 q129 q130 q131 q132 q133 q134 q6 sl3 sl4 sl7 sl8 sl9 sl10 sl11 sl12 sl13 sl15 sl16 sl17 sl18 sl19 sl20 sl21 sl22 ho hi
      go_simp
      exact hK _ _ (Below.refl _ _) rfl
    · obtain rfl := Option.some.inj ho
      have eg : v 118 = (.bool true) := HD.out ⟨40, .guard⟩ (by simp) rfl
      rw [eg] at q118
      have e0 : v 119 = (.int .i64 y4) := HD.out ⟨41, .data⟩ (by simp) rfl
      rw [e0] at q119
      have e1 : v 120 = (.int .i64 y4) := HD.out ⟨42, .data⟩ (by simp) rfl
      rw [e1] at q120
      clear q78 q79 q80 q81 q82 q83 q84 q85 q86 q87 q88 q89 q90 q91 q92 q93 q94 q95 q96 q97 q98 q99 q100 q101 q102 q103 q104 q105 q106 q107 q108 q109 q110 q111 q112 q113 q114 q115 q116 q117 q121 q122 q123 q124 q125 q126 q127 q128 q129 q130 q131 q132 q133 q134 q6 sl3 sl4 sl7 sl8 sl9 sl10 sl11 sl12 sl13 sl14 sl15 sl16 sl17 sl18 sl19 sl20 sl21 sl22 ho hi
      go_simp
      try rw [beq_self_eq_true]
      try simp only [beq_self_eq_true, Bool.and_self, Bool.true_and, Bool.and_true]
      exact hK _ _ (Below.refl _ _) rfl
    · obtain rfl := Option.some.inj ho
      have e0 : v 118 = (.bool true) := HD.out ⟨40, .data⟩ (by simp) rfl
      rw [e0] at q118
      have e1 : v 121 = (.bool true) := HD.out ⟨43, .data⟩ (by simp) rfl
      rw [e1] at q121
      clear q78 q79 q80 q81 q82 q83 q84 q85 q86 q87 q88 q89 q90 q91 q92 q93 q94 q95 q96 q97 q98 q99 q100 q101 q102 q103 q104 q105 q106 q107 q108 q109 q110 q111 q112 q113 q114 q115 q116 q117 q119 q120 q122 q123 q124 q125 q126 q127 q128 q129 q130 q131 q132 q133 q134 q6 sl3 sl4 sl7 sl8 sl9 sl10 sl11 sl12 sl13 sl14 sl15 sl16 sl17 sl18 sl19 sl20 sl21 sl22 ho hi
      go_simp
      exact hK _ _ (Below.refl _ _) rfl
    · obtain rfl := Option.some.inj ho
      have e0 : v 122 = (.bool true) := HD.out ⟨44, .data⟩ (by simp) rfl
      rw [e0] at q122
      clear q78 q79 q80 q81 q82 q83 q84 q85 q86 q87 q88 q89 q90 q91 q92 q93 q94 q95 q96 q97 q98 q99 q100 q101 q102 q103 q104 q105 q106 q107 q108 q109 q110 q111 q112 q113 q114 q115 q116 q117 q118 q119 q120 q121 q123 q124 q125 q126 q127 q128 q129 q130 q131 q132 q133 q134 q6 sl3 sl4 sl7 sl8 sl9 sl10 sl11 sl12 sl13 sl14 sl15 sl16 sl17 sl18 sl19 sl20 sl21 sl22 ho hi
      go_simp
      exact hK _ _ (Below.refl _ _) rfl
    · obtain rfl := Option.some.inj ho
      have eg : v 123 = (.bool true) := HD.out ⟨45, .guard⟩ (by simp) rfl
      rw [eg] at q123
      obtain ⟨k0, k1, -⟩ := HF.out.2
      have hP := (rfl : Value.agg #[.slice A n c] = .agg #[.slice A n c])
      clear q78 q79 q80 q81 q82 q83 q84 q85 q86 q87 q88 q89 q90 q91 q92 q93 q94 q95 q96 q97 q98 q99 q100 q101 q102 q103 q104 q105 q106 q107 q108 q109 q110 q111 q112 q113 q114 q115 q116 q117 q118 q119 q120 q121 q122 q124 q125 q126 q127 q128 q129 q130 q131 q132 q133 q134 q6 sl4 sl7 sl8 sl9 sl10 sl11 sl12 sl13 sl14 sl15 sl16 sl17 sl18 sl19 sl20 sl21 sl22 ho hi
      go_simp
      exact hK _ _ (Below.refl _ _) hP
    · obtain rfl := Option.some.inj ho
      have eg : v 123 = (.bool true) := HD.out ⟨45, .guard⟩ (by simp) rfl
      rw [eg] at q123
      obtain ⟨k0, k1, -⟩ := HF.out.2
      have hP := (rfl : Value.agg #[.slice B m d] = .agg #[.slice B m d])
      clear q78 q79 q80 q81 q82 q83 q84 q85 q86 q87 q88 q89 q90 q91 q92 q93 q94 q95 q96 q97 q98 q99 q100 q101 q102 q103 q104 q105 q106 q107 q108 q109 q110 q111 q112 q113 q114 q115 q116 q117 q118 q119 q120 q121 q122 q124 q125 q126 q127 q128 q129 q130 q131 q132 q133 q134 q6 sl3 sl7 sl8 sl9 sl10 sl11 sl12 sl13 sl14 sl15 sl16 sl17 sl18 sl19 sl20 sl21 sl22 ho hi
      go_simp
      exact hK _ _ (Below.refl _ _) hP
    · obtain rfl := Option.some.inj ho
      have eg : v 123 = (.bool true) := HD.out ⟨45, .guard⟩ (by simp) rfl
      rw [eg] at q123
      have e0 : v 124 = (.agg #[.slice A n c]) := HD.out ⟨46, .data⟩ (by simp) rfl
      rw [e0] at q124
      have e1 : v 125 = (.agg #[.slice B m d]) := HD.out ⟨47, .data⟩ (by simp) rfl
      rw [e1] at q125
      clear q78 q79 q80 q81 q82 q83 q84 q85 q86 q87 q88 q89 q90 q91 q92 q93 q94 q95 q96 q97 q98 q99 q100 q101 q102 q103 q104 q105 q106 q107 q108 q109 q110 q111 q112 q113 q114 q115 q116 q117 q118 q119 q120 q121 q122 q126 q127 q128 q129 q130 q131 q132 q133 q134 q6 sl3 sl4 sl7 sl8 sl9 sl10 sl11 sl12 sl13 sl14 sl15 sl16 sl17 sl18 sl19 sl20 sl21 sl22 ho hi
      go_simp
      (with_reducible refine (I1.out.run HF.out.1).mono ?_)
      rintro e w2 ⟨rfl, hB⟩
      exact hK _ _ hB rfl
    · obtain rfl := Option.some.inj ho
      have eg : v 123 = (.bool true) := HD.out ⟨45, .guard⟩ (by simp) rfl
      rw [eg] at q123
      obtain ⟨k0, k1, -⟩ := HF.out.2
      have hP := (rfl : Value.agg #[.slice A n c] = .agg #[.slice A n c])
      clear q78 q79 q80 q81 q82 q83 q84 q85 q86 q87 q88 q89 q90 q91 q92 q93 q94 q95 q96 q97 q98 q99 q100 q101 q102 q103 q104 q105 q106 q107 q108 q109 q110 q111 q112 q113 q114 q115 q116 q117 q118 q119 q120 q121 q122 q124 q125 q126 q127 q128 q129 q130 q131 q132 q133 q134 q6 sl4 sl7 sl8 sl9 sl10 sl11 sl12 sl13 sl14 sl15 sl16 sl17 sl18 sl19 sl20 sl21 sl22 ho hi
      go_simp
      exact hK _ _ (Below.refl _ _) hP
    · obtain rfl := Option.some.inj ho
      have eg : v 123 = (.bool true) := HD.out ⟨45, .guard⟩ (by simp) rfl
      rw [eg] at q123
      obtain ⟨k0, k1, -⟩ := HF.out.2
      have hP := (rfl : Value.agg #[.slice B m d] = .agg #[.slice B m d])
      clear q78 q79 q80 q81 q82 q83 q84 q85 q86 q87 q88 q89 q90 q91 q92 q93 q94 q95 q96 q97 q98 q99 q100 q101 q102 q103 q104 q105 q106 q107 q108 q109 q110 q111 q112 q113 q114 q115 q116 q117 q118 q119 q120 q121 q122 q124 q125 q126 q127 q128 q129 q130 q131 q132 q133 q134 q6 sl3 sl7 sl8 sl9 sl10 sl11 sl12 sl13 sl14 sl15 sl16 sl17 sl18 sl19 sl20 sl21 sl22 ho hi
      go_simp
      exact hK _ _ (Below.refl _ _) hP
    · obtain rfl := Option.some.inj ho
      have eg : v 123 = (.bool true) := HD.out ⟨45, .guard⟩ (by simp) rfl
      rw [eg] at q123
      have e0 : v 127 = (.agg #[.slice A n c]) := HD.out ⟨49, .data⟩ (by simp) rfl
      rw [e0] at q127
      have e1 : v 128 = (.agg #[.slice B m d]) := HD.out ⟨50, .data⟩ (by simp) rfl
      rw [e1] at q128
      clear q78 q79 q80 q81 q82 q83 q84 q85 q86 q87 q88 q89 q90 q91 q92 q93 q94 q95 q96 q97 q98 q99 q100 q101 q102 q103 q104 q105 q106 q107 q108 q109 q110 q111 q112 q113 q114 q115 q116 q117 q118 q119 q120 q121 q122 q124 q125 q126 q129 q130 q131 q132 q133 q134 q6 sl3 sl4 sl7 sl8 sl9 sl10 sl11 sl12 sl13 sl14 sl15 sl16 sl17 sl18 sl19 sl20 sl21 sl22 ho hi
      go_simp
      (with_reducible refine (I2.out.run HF.out.1).mono ?_)
      rintro e w2 ⟨rfl, hB⟩
      exact hK _ _ hB rfl
    · obtain rfl := Option.some.inj ho
      have eg : v 123 = (.bool true) := HD.out ⟨45, .guard⟩ (by simp) rfl
      rw [eg] at q123
      have e0 : v 126 = (.bool ii) := HD.out ⟨48, .data⟩ (by simp) rfl
      rw [e0] at q126
      have e1 : v 129 = (.bool ii) := HD.out ⟨51, .data⟩ (by simp) rfl
      rw [e1] at q129
      clear q78 q79 q80 q81 q82 q83 q84 q85 q86 q87 q88 q89 q90 q91 q92 q93 q94 q95 q96 q97 q98 q99 q100 q101 q102 q103 q104 q105 q106 q107 q108 q109 q110 q111 q112 q113 q114 q115 q116 q117 q118 q119 q120 q121 q122 q124 q125 q127 q128 q130 q131 q132 q133 q134 q6 sl3 sl4 sl7 sl8 sl9 sl10 sl11 sl12 sl13 sl14 sl15 sl16 sl17 sl18 sl19 sl20 sl21 sl22 ho hi
      go_simp
      try rw [beq_self_eq_true]
      exact hK _ _ (Below.refl _ _) rfl
    · obtain rfl := Option.some.inj ho
      have e0 : v 123 = (.bool true) := HD.out ⟨45, .data⟩ (by simp) rfl
      rw [e0] at q123
      have e1 : v 130 = (.bool true) := HD.out ⟨52, .data⟩ (by simp) rfl
      rw [e1] at q130
      clear q78 q79 q80 q81 q82 q83 q84 q85 q86 q87 q88 q89 q90 q91 q92 q93 q94 q95 q96 q97 q98 q99 q100 q101 q102 q103 q104 q105 q106 q107 q108 q109 q110 q111 q112 q113 q114 q115 q116 q117 q118 q119 q120 q121 q122 q124 q125 q126 q127 q128 q129 q131 q132 q133 q134 q6 sl3 sl4 sl7 sl8 sl9 sl10 sl11 sl12 sl13 sl14 sl15 sl16 sl17 sl18 sl19 sl20 sl21 sl22 ho hi
      go_simp
      exact hK _ _ (Below.refl _ _) rfl
    · obtain rfl := Option.some.inj ho
      have e0 : v 131 = (.bool true) := HD.out ⟨53, .data⟩ (by simp) rfl
      rw [e0] at q131
      clear q78 q79 q80 q81 q82 q83 q84 q85 q86 q87 q88 q89 q90 q91 q92 q93 q94 q95 q96 q97 q98 q99 q100 q101 q102 q103 q104 q105 q106 q107 q108 q109 q110 q111 q112 q113 q114 q115 q116 q117 q118 q119 q120 q121 q122 q123 q124 q125 q126 q127 q128 q129 q130 q132 q133 q134 q6 sl3 sl4 sl7 sl8 sl9 sl10 sl11 sl12 sl13 sl14 sl15 sl16 sl17 sl18 sl19 sl20 sl21 sl22 ho hi
      go_simp
      exact hK _ _ (Below.refl _ _) rfl
    · obtain rfl := Option.some.inj ho
      have eg : v 132 = (.bool true) := HD.out ⟨54, .guard⟩ (by simp) rfl
      rw [eg] at q132
      clear q78 q79 q80 q81 q82 q83 q84 q85 q86 q87 q88 q89 q90 q91 q92 q93 q94 q95 q96 q97 q98 q99 q100 q101 q102 q103 q104 q105 q106 q107 q108 q109 q110 q111 q112 q113 q114 q115 q116 q117 q118 q119 q120 q121 q122 q123 q124 q125 q126 q127 q128 q129 q130 q131 q133 q134 q6 sl3 sl4 sl7 sl8 sl9 sl10 sl11 sl12 sl13 sl14 sl15 sl16 sl17 sl18 sl19 sl20 sl21 sl22 ho hi
      go_simp
      (with_reducible refine (HAw.out.run HF.out.1).mono ?_)
      rintro e w2 ⟨rfl, hB⟩
      exact hK _ _ hB rfl
    · obtain rfl := Option.some.inj ho
      have e0 : v 132 = (.bool true) := HD.out ⟨54, .data⟩ (by simp) rfl
      rw [e0] at q132
      have e1 : v 133 = (.bool true) := HD.out ⟨55, .data⟩ (by simp) rfl
      rw [e1] at q133
      clear q78 q79 q80 q81 q82 q83 q84 q85 q86 q87 q88 q89 q90 q91 q92 q93 q94 q95 q96 q97 q98 q99 q100 q101 q102 q103 q104 q105 q106 q107 q108 q109 q110 q111 q112 q113 q114 q115 q116 q117 q118 q119 q120 q121 q122 q123 q124 q125 q126 q127 q128 q129 q130 q131 q134 q6 sl3 sl4 sl7 sl8 sl9 sl10 sl11 sl12 sl13 sl14 sl15 sl16 sl17 sl18 sl19 sl20 sl21 sl22 ho hi
      go_simp
      exact hK _ _ (Below.refl _ _) rfl
    · obtain rfl := Option.some.inj ho
      have e0 : v 134 = (.bool true) := HD.out ⟨56, .data⟩ (by simp) rfl
      rw [e0] at q134
      clear q78 q79 q80 q81 q82 q83 q84 q85 q86 q87 q88 q89 q90 q91 q92 q93 q94 q95 q96 q97 q98 q99 q100 q101 q102 q103 q104 q105 q106 q107 q108 q109 q110 q111 q112 q113 q114 q115 q116 q117 q118 q119 q120 q121 q122 q123 q124 q125 q126 q127 q128 q129 q130 q131 q132 q133 q6 sl3 sl4 sl7 sl8 sl9 sl10 sl11 sl12 sl13 sl14 sl15 sl16 sl17 sl18 sl19 sl20 sl21 sl22 ho hi
      go_simp
      exact hK _ _ (Below.refl _ _) rfl
  · intro v wx hF hall
    have h6 : v 6 = .bool true := hall 57 (by decide)
    have HB := Lib.hid hF.1
    clear hF hall
    simp only [over, List.setIfInBounds_toArray, List.set_cons_zero, List.set_cons_succ]
    rw [h6]
    generalize v 78 = v78
    generalize v 79 = v79
    generalize v 80 = v80
    generalize v 81 = v81
    generalize v 82 = v82
    generalize v 83 = v83
    generalize v 84 = v84
    generalize v 85 = v85
    generalize v 86 = v86
    generalize v 87 = v87
    generalize v 88 = v88
    generalize v 89 = v89
    generalize v 90 = v90
    generalize v 91 = v91
    generalize v 92 = v92
    generalize v 93 = v93
    generalize v 94 = v94
    generalize v 95 = v95
    generalize v 96 = v96
    generalize v 97 = v97
    generalize v 98 = v98
    generalize v 99 = v99
    generalize v 100 = v100
    generalize v 101 = v101
    generalize v 102 = v102
    generalize v 103 = v103
    generalize v 104 = v104
    generalize v 105 = v105
    generalize v 106 = v106
    generalize v 107 = v107
    generalize v 108 = v108
    generalize v 109 = v109
    generalize v 110 = v110
    generalize v 111 = v111
    generalize v 112 = v112
    generalize v 113 = v113
    generalize v 114 = v114
    generalize v 115 = v115
    generalize v 116 = v116
    generalize v 117 = v117
    generalize v 118 = v118
    generalize v 119 = v119
    generalize v 120 = v120
    generalize v 121 = v121
    generalize v 122 = v122
    generalize v 123 = v123
    generalize v 124 = v124
    generalize v 125 = v125
    generalize v 126 = v126
    generalize v 127 = v127
    generalize v 128 = v128
    generalize v 129 = v129
    generalize v 130 = v130
    generalize v 131 = v131
    generalize v 132 = v132
    generalize v 133 = v133
    generalize v 134 = v134
    go_wp2_with fail
    go_ret
    exact ⟨rfl, HB.out⟩

end Go.Proofs.YtabaknkjcoibpaaGreatDoor
