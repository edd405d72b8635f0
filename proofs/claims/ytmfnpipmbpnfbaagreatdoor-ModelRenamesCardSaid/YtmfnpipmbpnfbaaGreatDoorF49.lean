/- diceboxlaw04.ModelRenames: the walk. -/
import Derived.Test.YtmfnpipmbpnfbaaGreatDoorF42
import Derived.Test.YtmfnpipmbpnfbaaGreatDoorF47
import Derived.Test.YtmfnpipmbpnfbaaGreatDoorF37
import Derived.Test.YtmfnpipmbpnfbaaGreatDoorF43
import Derived.Test.YtmfnpipmbpnfbaaGreatDoorF48
import Derived.Test.YtmfnpipmbpnfbaaGreatDoorF38
import Derived.Lib.LaidU8
import Derived.Lay
import Derived.LaidOnce

set_option maxRecDepth 100000
set_option maxHeartbeats 40000000
namespace Go.Proofs.YtmfnpipmbpnfbaaGreatDoor
open Go.RowKit
theorem below_eqn {X Y : World} {o : Obj} (h : X.alloc o = Y) : Below X.heap.size X Y := by
  rw [← h]
  exact below_alloc _ _
theorem list1n {X Y : World} {v1 : Value} {T : Nat} (h : X.alloc (.cells #[v1] T) = Y) : Y.cell? ⟨X.heap.size, 0, none⟩ = some v1 ∧ X.heap.size < Y.heap.size := by
  subst h
  simp [go_sem]
theorem all1n (b1 : Bool) : allB (fun _ => b1) 1 = b1 := by
  cases b1 <;> rfl
def RetBck (n : Nat) (st : Nat → StV) (w : World) (e : Ending) (w' : World) : Prop := ∃ A c sb, e = .returned (.tuple #[.agg #[.slice A n c], .int .i64 0]) ∧ Lst w' A n sb ∧ (∀ i, i < n → StL (sb i) (st i)) ∧ Below w.heap.size w w'
theorem renames_m (A B : Option Addr) (n c m d : Nat) (b1 : Bool) (hb : b1 = true) (w : World)
    (HFa : Hid (CV 43 #[.int .i64 40, .agg #[.slice A n c]] (.bool b1) w))
    (HAw : Hid (CV 11 #[] (.bool true) w)) (hl : decide ((60 : Int) < (m : Int)) = true) : 
    Calls Tryz.prog 6 #[.agg #[.slice A n c], .slice B m d] w fun e w' => e = .returned (.bool true) ∧ Below w.heap.size w w' := by
  go_enter Tryz.func6, Tryz.ntmps6
  go_upto_region 1 with fail
  generalize hX : w.alloc _ = X
  have HX : Hid (Below w.heap.size w X) := by rw [← hX]; exact below_alloc _ _
  have KX : Hid (MBx X w.heap.size A n c) := by rw [← hX]; exact MBx.new _ _ _ _ _
  clear hX
  obtain ⟨k0, -⟩ := KX.out
  go_wp2_with fail
  clear k0
  generalize hY : X.alloc _ = Y
  have HY : Hid (Below w.heap.size w Y) := by rw [← hY]; exact Lib.hid (HX.out.trans ((below_alloc X _).mono HX.out.size))
  have KY : Hid (MBx Y w.heap.size A n c) := by rw [← hY]; exact Lib.hid (KX.out.keep (below_alloc _ _))
  obtain ⟨y0, y2⟩ := list1n hY
  clear hY HX KX
  have HLs : Hid (∀ i, i < 1 → Y.cell? ⟨X.heap.size, i, none⟩ = some (.slice ((fun _ => A) i) ((fun _ => n) i) ((fun _ => c) i))) := fun i hi => by
    obtain rfl : i = 0 := by omega
    exact y0
  have HFs : Hid (∀ i, i < 1 → CV 43 #[.int .i64 40, .agg #[.slice ((fun _ => A) i) ((fun _ => n) i) ((fun _ => c) i)]] (.bool ((fun _ => b1) i)) Y) := fun i hi => HFa.out.keep HY.out
  (with_reducible refine (lfew_any X.heap.size 1 (fun _ => A) (fun _ => n) (fun _ => c) (fun _ => b1) Y (by omega) y2 HLs HFs).mono ?_)
  rintro e w0 ⟨rfl, hB⟩
  rw [all1n]
  have HH := Lib.hid (HY.out.trans (hB.mono HY.out.size))
  have K := Lib.hid (KY.out.keep hB)
  clear hB HY KY y0 y2 HFa HLs HFs
  rw [hb]
  go_wp2_with fail
  (with_reducible refine (HAw.out.run HH.out).mono ?_)
  rintro e wz ⟨rfl, hBz⟩
  have CZ := Lib.hid (HH.out.trans (hBz.mono HH.out.size))
  clear hBz
  go_wp2_with fail
  go_ret
  exact ⟨rfl, CZ.out⟩
theorem renames_dark (A B : Option Addr) (n c m d : Nat) (b1 : Bool) (hb : b1 = false) (w : World)
    (HFa : Hid (CV 43 #[.int .i64 40, .agg #[.slice A n c]] (.bool b1) w))
    (HAw : Hid (CV 11 #[] (.bool true) w)) : 
    Calls Tryz.prog 6 #[.agg #[.slice A n c], .slice B m d] w fun e w' => e = .returned (.bool true) ∧ Below w.heap.size w w' := by
  go_enter Tryz.func6, Tryz.ntmps6
  go_upto_region 1 with fail
  generalize hX : w.alloc _ = X
  have HX : Hid (Below w.heap.size w X) := by rw [← hX]; exact below_alloc _ _
  have KX : Hid (MBx X w.heap.size A n c) := by rw [← hX]; exact MBx.new _ _ _ _ _
  clear hX
  obtain ⟨k0, -⟩ := KX.out
  go_wp2_with fail
  clear k0
  generalize hY : X.alloc _ = Y
  have HY : Hid (Below w.heap.size w Y) := by rw [← hY]; exact Lib.hid (HX.out.trans ((below_alloc X _).mono HX.out.size))
  have KY : Hid (MBx Y w.heap.size A n c) := by rw [← hY]; exact Lib.hid (KX.out.keep (below_alloc _ _))
  obtain ⟨y0, y2⟩ := list1n hY
  clear hY HX KX
  have HLs : Hid (∀ i, i < 1 → Y.cell? ⟨X.heap.size, i, none⟩ = some (.slice ((fun _ => A) i) ((fun _ => n) i) ((fun _ => c) i))) := fun i hi => by
    obtain rfl : i = 0 := by omega
    exact y0
  have HFs : Hid (∀ i, i < 1 → CV 43 #[.int .i64 40, .agg #[.slice ((fun _ => A) i) ((fun _ => n) i) ((fun _ => c) i)]] (.bool ((fun _ => b1) i)) Y) := fun i hi => HFa.out.keep HY.out
  (with_reducible refine (lfew_any X.heap.size 1 (fun _ => A) (fun _ => n) (fun _ => c) (fun _ => b1) Y (by omega) y2 HLs HFs).mono ?_)
  rintro e w0 ⟨rfl, hB⟩
  rw [all1n]
  have HH := Lib.hid (HY.out.trans (hB.mono HY.out.size))
  have K := Lib.hid (KY.out.keep hB)
  clear hB HY KY y0 y2 HFa HLs HFs
  rw [hb]
  go_wp2_with fail
  (with_reducible refine (HAw.out.run HH.out).mono ?_)
  rintro e wz ⟨rfl, hBz⟩
  have CZ := Lib.hid (HH.out.trans (hBz.mono HH.out.size))
  clear hBz
  go_wp2_with fail
  go_ret
  exact ⟨rfl, CZ.out⟩
theorem renames_e1 (A B : Option Addr) (n c m d : Nat) (b1 : Bool) (hb : b1 = true) (w : World)
    (HFa : Hid (CV 43 #[.int .i64 40, .agg #[.slice A n c]] (.bool b1) w))
    (HAw : Hid (CV 11 #[] (.bool true) w))
    (hl : decide ((60 : Int) < (m : Int)) = false)
    (R1 : Hid (∀ wx, Below w.heap.size w wx → Calls Tryz.prog 36 #[.agg #[.slice A n c], .slice B m d] wx (fun e w' => e = .returned (.tuple #[.agg #[.slice none 0 0], .int .i64 1]) ∧ Below wx.heap.size wx w')))
    (P1 : Hid (∀ wx, Below w.heap.size w wx → Calls Tryz.prog 37 #[.agg #[.slice A n c], .slice B m d] wx (fun e w' => e = .returned (.tuple #[.agg #[.slice none 0 0], .int .i64 1]) ∧ Below wx.heap.size wx w'))) : 
    Calls Tryz.prog 6 #[.agg #[.slice A n c], .slice B m d] w fun e w' => e = .returned (.bool true) ∧ Below w.heap.size w w' := by
  go_enter Tryz.func6, Tryz.ntmps6
  go_upto_region 1 with fail
  generalize hX : w.alloc _ = X
  have HX : Hid (Below w.heap.size w X) := by rw [← hX]; exact below_alloc _ _
  have KX : Hid (MBx X w.heap.size A n c) := by rw [← hX]; exact MBx.new _ _ _ _ _
  clear hX
  obtain ⟨k0, -⟩ := KX.out
  go_wp2_with fail
  clear k0
  generalize hY : X.alloc _ = Y
  have HY : Hid (Below w.heap.size w Y) := by rw [← hY]; exact Lib.hid (HX.out.trans ((below_alloc X _).mono HX.out.size))
  have KY : Hid (MBx Y w.heap.size A n c) := by rw [← hY]; exact Lib.hid (KX.out.keep (below_alloc _ _))
  obtain ⟨y0, y2⟩ := list1n hY
  clear hY HX KX
  have HLs : Hid (∀ i, i < 1 → Y.cell? ⟨X.heap.size, i, none⟩ = some (.slice ((fun _ => A) i) ((fun _ => n) i) ((fun _ => c) i))) := fun i hi => by
    obtain rfl : i = 0 := by omega
    exact y0
  have HFs : Hid (∀ i, i < 1 → CV 43 #[.int .i64 40, .agg #[.slice ((fun _ => A) i) ((fun _ => n) i) ((fun _ => c) i)]] (.bool ((fun _ => b1) i)) Y) := fun i hi => HFa.out.keep HY.out
  (with_reducible refine (lfew_any X.heap.size 1 (fun _ => A) (fun _ => n) (fun _ => c) (fun _ => b1) Y (by omega) y2 HLs HFs).mono ?_)
  rintro e w0 ⟨rfl, hB⟩
  rw [all1n]
  have HH := Lib.hid (HY.out.trans (hB.mono HY.out.size))
  have K := Lib.hid (KY.out.keep hB)
  clear hB HY KY y0 y2 HFa HLs HFs
  rw [hb]
  obtain ⟨k0, -⟩ := K.out
  go_wp2_with fail
  clear k0
  (with_reducible refine (R1.out _ HH.out).mono ?_)
  rintro e w1 ⟨rfl, hB⟩
  replace K := Lib.hid (K.out.keep hB)
  replace HH := Lib.hid (HH.out.trans (hB.mono HH.out.size))
  clear hB R1
  go_upto_region 4 with fail
  generalize hZ : World.alloc _ _ = Z
  have hbz := below_eqn hZ
  have B1 := Lib.hid (show MBx Z _ none 0 0 by rw [← hZ]; exact MBx.new _ _ _ _ _)
  replace K := Lib.hid (K.out.keep hbz)
  replace HH := Lib.hid (HH.out.trans (hbz.mono HH.out.size))
  clear hZ hbz
  obtain ⟨k0, -⟩ := K.out
  go_wp2_with fail
  clear k0
  (with_reducible refine (P1.out _ HH.out).mono ?_)
  rintro e w2 ⟨rfl, hB⟩
  replace K := Lib.hid (K.out.keep hB)
  replace B1 := Lib.hid (B1.out.keep hB)
  replace HH := Lib.hid (HH.out.trans (hB.mono HH.out.size))
  clear hB P1
  go_upto_region 5 with fail
  generalize hZ : World.alloc _ _ = Z2
  have hbz := below_eqn hZ
  have B2 := Lib.hid (show MBx Z2 _ none 0 0 by rw [← hZ]; exact MBx.new _ _ _ _ _)
  replace K := Lib.hid (K.out.keep hbz)
  replace B1 := Lib.hid (B1.out.keep hbz)
  replace HH := Lib.hid (HH.out.trans (hbz.mono HH.out.size))
  clear hZ hbz
  obtain ⟨k1, -⟩ := B1.out
  obtain ⟨k2, -⟩ := B2.out
  go_wp2_with fail
  clear k1 k2
  (with_reducible refine (ident_none _).mono ?_)
  rintro e w3 ⟨rfl, hB⟩
  replace K := Lib.hid (K.out.keep hB)
  replace HH := Lib.hid (HH.out.trans (hB.mono HH.out.size))
  clear hB
  go_wp2_with fail
  (with_reducible refine (HAw.out.run HH.out).mono ?_)
  rintro e wz ⟨rfl, hBz⟩
  have CZ := Lib.hid (HH.out.trans (hBz.mono HH.out.size))
  clear hBz
  go_wp2_with fail
  go_ret
  exact ⟨rfl, CZ.out⟩
theorem renames_e6 (A B : Option Addr) (n c m d : Nat) (b1 : Bool) (hb : b1 = true) (w : World)
    (HFa : Hid (CV 43 #[.int .i64 40, .agg #[.slice A n c]] (.bool b1) w))
    (HAw : Hid (CV 11 #[] (.bool true) w))
    (hl : decide ((60 : Int) < (m : Int)) = false)
    (R1 : Hid (∀ wx, Below w.heap.size w wx → Calls Tryz.prog 36 #[.agg #[.slice A n c], .slice B m d] wx (fun e w' => e = .returned (.tuple #[.agg #[.slice none 0 0], .int .i64 6]) ∧ Below wx.heap.size wx w')))
    (P1 : Hid (∀ wx, Below w.heap.size w wx → Calls Tryz.prog 37 #[.agg #[.slice A n c], .slice B m d] wx (fun e w' => e = .returned (.tuple #[.agg #[.slice none 0 0], .int .i64 6]) ∧ Below wx.heap.size wx w'))) : 
    Calls Tryz.prog 6 #[.agg #[.slice A n c], .slice B m d] w fun e w' => e = .returned (.bool true) ∧ Below w.heap.size w w' := by
  go_enter Tryz.func6, Tryz.ntmps6
  go_upto_region 1 with fail
  generalize hX : w.alloc _ = X
  have HX : Hid (Below w.heap.size w X) := by rw [← hX]; exact below_alloc _ _
  have KX : Hid (MBx X w.heap.size A n c) := by rw [← hX]; exact MBx.new _ _ _ _ _
  clear hX
  obtain ⟨k0, -⟩ := KX.out
  go_wp2_with fail
  clear k0
  generalize hY : X.alloc _ = Y
  have HY : Hid (Below w.heap.size w Y) := by rw [← hY]; exact Lib.hid (HX.out.trans ((below_alloc X _).mono HX.out.size))
  have KY : Hid (MBx Y w.heap.size A n c) := by rw [← hY]; exact Lib.hid (KX.out.keep (below_alloc _ _))
  obtain ⟨y0, y2⟩ := list1n hY
  clear hY HX KX
  have HLs : Hid (∀ i, i < 1 → Y.cell? ⟨X.heap.size, i, none⟩ = some (.slice ((fun _ => A) i) ((fun _ => n) i) ((fun _ => c) i))) := fun i hi => by
    obtain rfl : i = 0 := by omega
    exact y0
  have HFs : Hid (∀ i, i < 1 → CV 43 #[.int .i64 40, .agg #[.slice ((fun _ => A) i) ((fun _ => n) i) ((fun _ => c) i)]] (.bool ((fun _ => b1) i)) Y) := fun i hi => HFa.out.keep HY.out
  (with_reducible refine (lfew_any X.heap.size 1 (fun _ => A) (fun _ => n) (fun _ => c) (fun _ => b1) Y (by omega) y2 HLs HFs).mono ?_)
  rintro e w0 ⟨rfl, hB⟩
  rw [all1n]
  have HH := Lib.hid (HY.out.trans (hB.mono HY.out.size))
  have K := Lib.hid (KY.out.keep hB)
  clear hB HY KY y0 y2 HFa HLs HFs
  rw [hb]
  obtain ⟨k0, -⟩ := K.out
  go_wp2_with fail
  clear k0
  (with_reducible refine (R1.out _ HH.out).mono ?_)
  rintro e w1 ⟨rfl, hB⟩
  replace K := Lib.hid (K.out.keep hB)
  replace HH := Lib.hid (HH.out.trans (hB.mono HH.out.size))
  clear hB R1
  go_upto_region 4 with fail
  generalize hZ : World.alloc _ _ = Z
  have hbz := below_eqn hZ
  have B1 := Lib.hid (show MBx Z _ none 0 0 by rw [← hZ]; exact MBx.new _ _ _ _ _)
  replace K := Lib.hid (K.out.keep hbz)
  replace HH := Lib.hid (HH.out.trans (hbz.mono HH.out.size))
  clear hZ hbz
  obtain ⟨k0, -⟩ := K.out
  go_wp2_with fail
  clear k0
  (with_reducible refine (P1.out _ HH.out).mono ?_)
  rintro e w2 ⟨rfl, hB⟩
  replace K := Lib.hid (K.out.keep hB)
  replace B1 := Lib.hid (B1.out.keep hB)
  replace HH := Lib.hid (HH.out.trans (hB.mono HH.out.size))
  clear hB P1
  go_upto_region 5 with fail
  generalize hZ : World.alloc _ _ = Z2
  have hbz := below_eqn hZ
  have B2 := Lib.hid (show MBx Z2 _ none 0 0 by rw [← hZ]; exact MBx.new _ _ _ _ _)
  replace K := Lib.hid (K.out.keep hbz)
  replace B1 := Lib.hid (B1.out.keep hbz)
  replace HH := Lib.hid (HH.out.trans (hbz.mono HH.out.size))
  clear hZ hbz
  obtain ⟨k1, -⟩ := B1.out
  obtain ⟨k2, -⟩ := B2.out
  go_wp2_with fail
  clear k1 k2
  (with_reducible refine (ident_none _).mono ?_)
  rintro e w3 ⟨rfl, hB⟩
  replace K := Lib.hid (K.out.keep hB)
  replace HH := Lib.hid (HH.out.trans (hB.mono HH.out.size))
  clear hB
  go_wp2_with fail
  (with_reducible refine (HAw.out.run HH.out).mono ?_)
  rintro e wz ⟨rfl, hBz⟩
  have CZ := Lib.hid (HH.out.trans (hBz.mono HH.out.size))
  clear hBz
  go_wp2_with fail
  go_ret
  exact ⟨rfl, CZ.out⟩
theorem renames_ok (A B : Option Addr) (n c d : Nat) (b1 : Bool) (hb : b1 = true) (w : World)
    (HFa : Hid (CV 43 #[.int .i64 40, .agg #[.slice A n c]] (.bool b1) w))
    (HAw : Hid (CV 11 #[] (.bool true) w))
    (st tg : Nat → StV) (f : Nat → Int) (nm : Nat → Int) (hn : n ≤ 40) (hn1 : 1 ≤ n)
    (HA : Hid (Lst w A n st)) (HB0 : Hid (Lin w B n f)) (HIN : Hid (∀ i, i < n → 0 ≤ f i ∧ f i < (n : Int)))
    (R1 : Hid (∀ wx, Below w.heap.size w wx → Calls Tryz.prog 36 #[.agg #[.slice A n c], .slice B n d] wx (RetRn nm n tg wx)))
    (P1 : Hid (∀ wx, Below w.heap.size w wx → Calls Tryz.prog 37 #[.agg #[.slice A n c], .slice B n d] wx (RetRn nm n tg wx)))
    (HSM : Hid (∀ s1 s2 : Nat → StV, (∀ i, i < n → ReS nm (tg i) (s1 i)) → (∀ i, i < n → ReS nm (tg i) (s2 i)) → ∀ i, i < n → StL (s1 i) (s2 i)))
    (HSZ : Hid (∀ s1 : Nat → StV, (∀ i, i < n → ReS nm (tg i) (s1 i)) → Szs n s1)) (HS0 : Hid (Szs n st))
    (HBK : Hid (∀ wx A1 c1 s1 g1, Lst wx A1 n s1 → (∀ i, i < n → ReS nm (tg i) (s1 i)) → RowZ wx g1 n (zmF f n) → Calls Tryz.prog 37 #[.agg #[.slice A1 n c1], .slice (some ⟨g1, 0, none⟩) n n] wx (RetBck n st wx))) : 
    Calls Tryz.prog 6 #[.agg #[.slice A n c], .slice B n d] w fun e w' => e = .returned (.bool true) ∧ Below w.heap.size w w' := by
  go_enter Tryz.func6, Tryz.ntmps6
  go_upto_region 1 with fail
  generalize hX : w.alloc _ = X
  have HX : Hid (Below w.heap.size w X) := by rw [← hX]; exact below_alloc _ _
  have KX : Hid (MBx X w.heap.size A n c) := by rw [← hX]; exact MBx.new _ _ _ _ _
  clear hX
  obtain ⟨k0, -⟩ := KX.out
  go_wp2_with fail
  clear k0
  generalize hY : X.alloc _ = Y
  have HY : Hid (Below w.heap.size w Y) := by rw [← hY]; exact Lib.hid (HX.out.trans ((below_alloc X _).mono HX.out.size))
  have KY : Hid (MBx Y w.heap.size A n c) := by rw [← hY]; exact Lib.hid (KX.out.keep (below_alloc _ _))
  obtain ⟨y0, y2⟩ := list1n hY
  clear hY HX KX
  have HLs : Hid (∀ i, i < 1 → Y.cell? ⟨X.heap.size, i, none⟩ = some (.slice ((fun _ => A) i) ((fun _ => n) i) ((fun _ => c) i))) := fun i hi => by
    obtain rfl : i = 0 := by omega
    exact y0
  have HFs : Hid (∀ i, i < 1 → CV 43 #[.int .i64 40, .agg #[.slice ((fun _ => A) i) ((fun _ => n) i) ((fun _ => c) i)]] (.bool ((fun _ => b1) i)) Y) := fun i hi => HFa.out.keep HY.out
  (with_reducible refine (lfew_any X.heap.size 1 (fun _ => A) (fun _ => n) (fun _ => c) (fun _ => b1) Y (by omega) y2 HLs HFs).mono ?_)
  rintro e w0 ⟨rfl, hB⟩
  rw [all1n]
  have HH := Lib.hid (HY.out.trans (hB.mono HY.out.size))
  have K := Lib.hid (KY.out.keep hB)
  clear hB HY KY y0 y2 HFa HLs HFs
  rw [hb]
  have HN := Lib.hid hn
  have HN1 := Lib.hid hn1
  have hl : decide ((60 : Int) < (n : Int)) = false := decide_eq_false (by omega)
  clear hn hn1
  obtain ⟨k0, -⟩ := K.out
  go_wp2_with fail
  clear k0
  (with_reducible refine (R1.out _ HH.out).mono ?_)
  rintro e w1 ⟨A1, c1, s1, rfl, hL, hS, hB⟩
  replace K := Lib.hid (K.out.keep hB)
  replace HH := Lib.hid (HH.out.trans (hB.mono HH.out.size))
  have L1 := Lib.hid hL
  have E1 := Lib.hid hS
  clear hL hS hB R1
  go_upto_region 4 with fail
  generalize hZ : World.alloc _ _ = Z
  have hbz := below_eqn hZ
  have B1 := Lib.hid (show MBx Z _ A1 n c1 by rw [← hZ]; exact MBx.new _ _ _ _ _)
  replace K := Lib.hid (K.out.keep hbz)
  replace L1 := Lib.hid (L1.out.keep hbz)
  replace HH := Lib.hid (HH.out.trans (hbz.mono HH.out.size))
  clear hZ hbz
  obtain ⟨k0, -⟩ := K.out
  go_wp2_with fail
  clear k0
  (with_reducible refine (P1.out _ HH.out).mono ?_)
  rintro e w2 ⟨A2, c2, s2, rfl, hL, hS, hB⟩
  replace K := Lib.hid (K.out.keep hB)
  replace L1 := Lib.hid (L1.out.keep hB)
  replace B1 := Lib.hid (B1.out.keep hB)
  replace HH := Lib.hid (HH.out.trans (hB.mono HH.out.size))
  have L2 := Lib.hid hL
  have E2 := Lib.hid hS
  clear hL hS hB P1
  go_upto_region 5 with fail
  generalize hZ : World.alloc _ _ = Z2
  have hbz := below_eqn hZ
  have B2 := Lib.hid (show MBx Z2 _ A2 n c2 by rw [← hZ]; exact MBx.new _ _ _ _ _)
  replace K := Lib.hid (K.out.keep hbz)
  replace L1 := Lib.hid (L1.out.keep hbz)
  replace B1 := Lib.hid (B1.out.keep hbz)
  replace L2 := Lib.hid (L2.out.keep hbz)
  replace HH := Lib.hid (HH.out.trans (hbz.mono HH.out.size))
  clear hZ hbz
  obtain ⟨k1, -⟩ := B1.out
  obtain ⟨k2, -⟩ := B2.out
  go_wp2_with fail
  clear k1 k2
  (with_reducible refine (ident_like L2.out L1.out (HSM.out _ _ E2.out E1.out) (HSZ.out _ E2.out) (HSZ.out _ E1.out)).mono ?_)
  rintro e w3 ⟨rfl, hB⟩
  replace K := Lib.hid (K.out.keep hB)
  replace L2 := Lib.hid (L2.out.keep hB)
  replace B2 := Lib.hid (B2.out.keep hB)
  replace HH := Lib.hid (HH.out.trans (hB.mono HH.out.size))
  clear hB L1 B1 E1 HSM HSZ
  have hn : n ≤ 40 := HN.out
  have hmk := make_ints n (by omega)
  go_wp2_with fail
  clear hmk
  generalize hY : w3.alloc _ = Y
  have hbz := below_eqn hY
  have HR : Hid (RowZ Y w3.heap.size n (zmF f 0)) := by rw [← hY]; exact Lib.hid (RowZ.new _ _)
  obtain ⟨g, hg⟩ : ∃ g, w3.heap.size = g := ⟨_, rfl⟩
  have HUP : Hid (∀ wx, Below g Y wx → Below w3.heap.size w3 wx) := Lib.hid fun wx hx => by rw [← hg] at hx; exact hbz.trans hx
  rw [hg] at HR ⊢
  clear hY hbz hg hn
  go_loopw [53] (fun i wr => ∃ k : Nat, Hid (k ≤ n) ∧ i = .int .i64 (k : Int) ∧ Hid (RowZ wr g n (zmF f k)) ∧ Hid (Below g Y wr)) (fun i _ => n - (intOf i).toNat)
  case atStart => exact ⟨0, Nat.zero_le _, rfl, HR, Lib.hid (Below.refl _ _)⟩
  case round =>
    clear HR
    obtain ⟨k, hk, rfl, hR, hBY⟩ := hrel
    have HWB : Hid (Below w.heap.size w wr) := Lib.hid (HH.out.trans ((HUP.out wr hBY.out).mono HH.out.size))
    have hn40 : n ≤ 40 := HN.out
    by_cases hlt : k < n
    · have hlt' : (k : Int) < (n : Int) := by omega
      obtain ⟨b, off, rfl, -, hc⟩ := (HB0.out.keep HWB.out) (by omega)
      have a0 := hc k hlt
      have hin := HIN.out k hlt
      have HSTEP : Hid (∀ x, zmF f (k + 1) x = if x = (f k).toNat then (k : Int) else zmF f k x) := Lib.hid fun x => rfl
      generalize f k = fk at a0 hin HSTEP
      obtain ⟨x, rfl⟩ := Int.eq_ofNat_of_zero_le hin.1
      have hx : x < n := by omega
      have g2' : (x : Int) < (n : Int) := by omega
      have r0 := hR.out.cell hx
      have f0 := hR.out.frozen x
      have hgl := hR.out.lt
      have HRR : Hid (RowZ (wr.setCell ⟨g, x, none⟩ (.int .i64 (k : Int))) g n (zmF f (k + 1))) := Lib.hid (World.rowIs.congr (hR.out.set x (k : Int)) fun j _ => by
        show Value.int .i64 (if j = x then (k : Int) else zmF f k j) = Value.int .i64 (zmF f (k + 1) j)
        rw [HSTEP.out j, Int.toNat_natCast])
      have HB2 := Lib.hid (hBY.out.setCell (p := ⟨g, x, none⟩) (Nat.le_refl _) (.int .i64 (k : Int)))
      generalize zmF f k x = y at r0
      clear hR hc hin hBY HWB
      go_wp2_with fail
      exact ⟨⟨k + 1, Lib.hid (by omega), by rw [show ((k + 1 : Nat) : Int) = (k : Int) + 1 from by omega], HRR, HB2⟩, by simp [intOf]; omega⟩
    · have hke : n = k := by have := hk.out; omega
      have hlt' : ¬ (k : Int) < (n : Int) := by omega
      subst hke
      have hup := HUP.out wr hBY.out
      replace K := Lib.hid (K.out.keep hup)
      replace B2 := Lib.hid (B2.out.keep hup)
      replace L2 := Lib.hid (L2.out.keep hup)
      replace HH := HWB
      clear hup HUP HWB hBY hn40
      obtain ⟨k2, -⟩ := B2.out
      go_wp2_with fail
      clear k2
      (with_reducible refine (HBK.out _ _ _ _ _ L2.out E2.out hR.out).mono ?_)
      rintro e w5 ⟨A5, c5, sb, rfl, hL, hS, hB⟩
      replace K := Lib.hid (K.out.keep hB)
      replace HH := Lib.hid (HH.out.trans (hB.mono HH.out.size))
      have L5 := Lib.hid hL
      have E5 := Lib.hid hS
      clear hL hS hB HBK L2 E2 B2 hR
      go_upto_region 16 with fail
      generalize hZ : World.alloc _ _ = Z5
      have hbz := below_eqn hZ
      have B5 := Lib.hid (show MBx Z5 _ A5 n c5 by rw [← hZ]; exact MBx.new _ _ _ _ _)
      replace K := Lib.hid (K.out.keep hbz)
      replace L5 := Lib.hid (L5.out.keep hbz)
      replace HH := Lib.hid (HH.out.trans (hbz.mono HH.out.size))
      clear hZ hbz
      obtain ⟨k5, -⟩ := B5.out
      obtain ⟨k0, -⟩ := K.out
      go_wp2_with fail
      clear k5 k0
      (with_reducible refine (ident_like L5.out (HA.out.keep HH.out) E5.out (szs_like E5.out HS0.out) HS0.out).mono ?_)
      rintro e w6 ⟨rfl, hB⟩
      replace HH := Lib.hid (HH.out.trans (hB.mono HH.out.size))
      clear hB
      go_wp2_with fail
      (with_reducible refine (HAw.out.run HH.out).mono ?_)
      rintro e wz ⟨rfl, hBz⟩
      have CZ := Lib.hid (HH.out.trans (hBz.mono HH.out.size))
      clear hBz
      go_wp2_with fail
      go_ret
      exact ⟨rfl, CZ.out⟩
theorem renames_any (A B : Option Addr) (n c m d : Nat) (st : Nat → StV) (f : Nat → Int) (w : World) (hA : Lst w A n st) (hB : Lin w B m f) (hfa : FitsM n st) (htab : Tab w) :
    Calls Tryz.prog 6 #[.agg #[.slice A n c], .slice B m d] w fun e w' => e = .returned (.bool true) ∧ Below w.heap.size w w' := by
  have HAw : CV 11 #[] (.bool true) w := fun wx hb => awake_any wx (htab.keep hb)
  have HFa := few_cv (c := c) hfa hA
  cases hb : fewB n st with
  | false => exact renames_dark A B n c m d _ hb w HFa HAw
  | true =>
  cases hl : decide ((60 : Int) < (m : Int)) with
  | true => exact renames_m A B n c m d _ hb w HFa HAw hl
  | false =>
  have hs := few_szs hb
  have hm : m ≤ 60 := by have := of_decide_eq_false hl; omega
  have V1 := mv_cv (c := c) hs hA
  have V2 := rmv_cv (c := c) hs hA
  have R1 : ∀ wx, Below w.heap.size w wx → Calls Tryz.prog 36 #[.agg #[.slice A n c], .slice B m d] wx (RenAns n m st f wx) := fun wx hx => rren_any A B n c m d st f wx hs.1 (by omega) (hA.keep hx) (hB.keep hx) (V2.keep hx)
  have P1 : ∀ wx, Below w.heap.size w wx → Calls Tryz.prog 37 #[.agg #[.slice A n c], .slice B m d] wx (RenAns n m st f wx) := fun wx hx => mren_any A B n c m d st f wx (by omega) (hA.keep hx) (hB.keep hx) (V1.keep hx)
  cases hO : (moB n st && ordB n m f) with
  | false =>
    have bad : ∀ wx e w', RenAns n m st f wx e w' → e = .returned (.tuple #[.agg #[.slice none 0 0], .int .i64 (if moB n st then 6 else 1)]) ∧ Below wx.heap.size wx w' := by
      rintro wx e w' (⟨h1, h2, -⟩ | ⟨-, h2, h3⟩)
      · rw [h1, h2] at hO; cases hO
      · exact ⟨h2, h3⟩
    cases hM : moB n st with
    | false =>
      exact renames_e1 A B n c m d _ hb w HFa HAw hl (fun wx hx => (R1 wx hx).mono fun e w' h => by have h2 := bad wx e w' h; rw [hM] at h2; exact h2) (fun wx hx => (P1 wx hx).mono fun e w' h => by have h2 := bad wx e w' h; rw [hM] at h2; exact h2)
    | true =>
      exact renames_e6 A B n c m d _ hb w HFa HAw hl (fun wx hx => (R1 wx hx).mono fun e w' h => by have h2 := bad wx e w' h; rw [hM] at h2; exact h2) (fun wx hx => (P1 wx hx).mono fun e w' h => by have h2 := bad wx e w' h; rw [hM] at h2; exact h2)
  | true =>
    obtain ⟨hM, hOr⟩ := Bool.and_eq_true_iff.1 hO
    obtain ⟨rfl, hp⟩ := ordB_open hOr
    have good : ∀ wx e w', RenAns m m st f wx e w' → RetRn (nmF f m) m (fun i => st (f i).toNat) wx e w' := by
      rintro wx e w' (⟨-, -, h⟩ | ⟨h1, -⟩)
      · exact h
      · rw [hO] at h1; cases h1
    have hin := per_in hp
    have hn40 := moB_n hM
    refine renames_ok A B m c d _ hb w HFa HAw st (fun i => st (f i).toNat) f (nmF f m) hn40.2 hn40.1 (Lib.hid hA) (Lib.hid hB) (Lib.hid hin) (Lib.hid fun wx hx => (R1 wx hx).mono (good wx)) (Lib.hid fun wx hx => (P1 wx hx).mono (good wx))
      (Lib.hid fun s1 s2 h1 h2 => ren_same hM hp h1 h2) (Lib.hid fun s1 h1 => szs_ren hs (fun i hi => by have := hin i hi; omega) h1) (Lib.hid hs) (Lib.hid fun wx A1 c1 s1 g1 hL h1 hR => ?_)
    have hM1 := moB_ren hM hp h1
    have V := mv_cv (c := c1) (szs_ren hs (fun i hi => by have := hin i hi; omega) h1) hL
    rw [hM1] at V
    have hR2 : RowZ wx g1 m (nmF f m) := World.rowIs.congr hR fun j hj => by rw [zm_end hp hj]
    refine (mren_any A1 (some ⟨g1, 0, none⟩) m c1 m m s1 (nmF f m) wx (by omega) hL hR2.lin (by rw [hM1]; exact V)).mono ?_
    rintro e w' (⟨-, -, A5, c5, sb, he, hL5, hS5, hB5⟩ | ⟨h1', -⟩)
    · exact ⟨A5, c5, sb, he, hL5, there_back hM hp h1 hS5, hB5⟩
    · rw [hM1, inv_ord hp] at h1'; cases h1'
end Go.Proofs.YtmfnpipmbpnfbaaGreatDoor
namespace Go.Proofs.YtmfnpipmbpnfbaaGreatDoor.lawRenames
open Go.ChangeShapes Go.WideShapes Go.ChangeAt Go.RowKit Go.Joins Go.Deep
theorem gP : Tryz.prog.globalNamed "internal/strconv.uint64pow10" = some 0 := by kernel_rfl
theorem tab_of_laid {W : World} (h : laidMet Tryz.prog Rows.modelRenamesRow.laid W) : Tab W := by
  obtain ⟨g, t, cs, fuel, p, h1, h2, h3, h4⟩ := Lib.laidMet.reads h (n := "internal/strconv.uint64pow10") (d := Rows.laid_internal_strconv_uint64pow10) (.tail _ (.tail _ (.head _)))
  obtain rfl := Option.some.inj (gP.symm.trans h1)
  have hty : (Tryz.prog.globals[0]?).map (·.type) = some 233 := by kernel_rfl
  obtain rfl := Option.some.inj (hty.symm.trans h2)
  have e : (Rows.laid_internal_strconv_uint64pow10 : DataW Unit) = Lib.tabData .u64 Lib.pow10Tab := rfl
  rw [e] at h4
  show Lib.TabIs _ _ _ _ _
  unfold Lib.TabIs
  rw [h3, ← Lib.cells_of_tab Tryz.underlying233 Tryz.underlying196 (by kernel_rfl) (by kernel_rfl) h4]
theorem laidOut : laidOutB Tryz.prog = true := by kernel_rfl
theorem lifted (os : Os) (started : os.Started) (H : Type) (enc : TypeId × Value → H) :
    ReturnsInHanded {} Tryz.checked os 6 .any (fun w args => (Rows.modelRenamesSpec.pre enc Tryz.prog Tryz.f6 [] false w args ∧ laidMetH Tryz.prog Rows.modelRenamesRow.laid w) ∧ sizedMet enc Tryz.prog Tryz.f6 (OpenSpec.ofChange Rows.modelRenamesSpec) false w args)
      (Rows.modelRenamesSpec.post enc Tryz.prog Tryz.f6 false true false false) := by
  refine returnsInHanded_of_calls (C := Tryz.checked) Tryz.own started (by kernel_rfl)
    (ChangeSpec.witness_shaped (enc := enc) (C := Tryz.checked) (os := os) (X := fun w _ => laidMetH Tryz.prog Rows.modelRenamesRow.laid w) false (World.laidAll Tryz.prog os Rows.modelRenamesRow.laid) #[.agg #[.slice none 0 0], .slice none 0 0] 8 (World.laidAll_os _ _ _)
      (World.shaped_of_ZipB (by kernel_rfl) (by kernel_rfl)) (by kernel_rfl) (by kernel_rfl) (by kernel_rfl)
      (by rw [MakeChecks.laidMetH_plain _ _ _ (by kernel_rfl)]; exact laidMet_laidAll _ (by kernel_rfl) (by kernel_rfl))) ?_
  intro w tape i _ hsh _ hok hpre _
  obtain ⟨_, _, _, fn', hfn', _, _, _, _, hval0⟩ := hok
  have efn : fn' = Tryz.f6 := Option.some.inj (hfn'.symm.trans Tryz.func6)
  subst efn
  obtain ⟨⟨⟨ds, gs, before, hw, -⟩, hL0⟩, -⟩ := hpre
  have hW := DataW.Whole.of_heap (w' := w.forCall tape i) (by rfl) hw
  have hL : laidMetH Tryz.prog Rows.modelRenamesRow.laid (w.forCall tape i) := hL0.of_heap (by rfl)
  generalize w.forCall tape i = W at *
  have hval : ∀ (j : Nat) t v, Tryz.f6.params[j]? = some t → i.args[j]? = some v → Value.okWide Tryz.prog W .any w.heap.size t v := hval0
  have hW' := hW
  obtain ⟨p, q, hA0, hV, rfl, hfz, hnd⟩ := hW
  have hA : DataW.TrodAll enc Tryz.prog W 0 (fun _ => true) true Tryz.f6.params.toList i.args.toList ds p := hA0
  rw [Tryz.params6] at hA hval
  generalize i.args = args at *
  obtain ⟨v0, vs0, d0, ds0, p0, q0, hargs, rfl, rfl, h0, r0⟩ := trodAll_cons hA
  obtain ⟨v1, vs1, d1, ds1, p1, q1, rfl, rfl, rfl, h1, r1⟩ := trodAll_cons r0
  obtain ⟨rfl, rfl, rfl⟩ := trodAll_nil r1
  obtain rfl : args = #[v0, v1] := by cases args; simp_all
  obtain ⟨rfl, rfl⟩ := trodVars_none hV
  obtain ⟨A, n, c, st, rfl, hLA, hFA⟩ := open_model (hval 0 24 v0 rfl rfl) h0
  obtain ⟨B, m, d, f, rfl, hLB⟩ := open_ints1 (hval 1 25 v1 rfl rfl) h1
  clear hA0 hval0
  rw [MakeChecks.laidMetH_plain _ _ _ (by kernel_rfl)] at hL
  refine (renames_any A B n c m d st f W hLA hLB hFA (tab_of_laid hL)).mono fun e W' ⟨he, hb⟩ => ?_
  subst he
  exact ChangeSpec.post_blind (post_of_stays laidOut (by kernel_rfl) rfl hW' (fun _ _ _ => (trodAll_cons_mk (shut_bool Tryz.underlying4 _) trodAll_mk0)) rfl rfl hb (ok_one (by kernel_rfl) rfl (okWide_bool_mk Tryz.underlying4 _)))
theorem row_holds : Rows.ModelRenamesSaid :=
  OpenClaim.holds_of_wide 6 Tryz.f6 rfl rfl rfl rfl rfl rfl rfl ⟨rfl, rfl, rfl, rfl, rfl⟩ rfl rfl rfl rfl rfl (by kernel_rfl) Tryz.func6 (by kernel_rfl)
    (of_decide_eq_true (by kernel_rfl)) (by unfold Func.isWrapper; first | (rw [if_pos (by decide +kernel)]; kernel_rfl) | (rw [if_neg (by decide +kernel)]; exact ⟨rfl, rfl⟩))
    (fun os started H enc _ => lifted os started H enc)
end Go.Proofs.YtmfnpipmbpnfbaaGreatDoor.lawRenames
