/- The program's Fix, FixFor and Goal. -/
import Derived.Test.YtokbejkkpekpnaaGreatDoorF43

set_option maxRecDepth 100000
set_option maxHeartbeats 40000000
namespace Go.Proofs.YtokbejkkpekpnaaGreatDoor
open Go.RowKit
theorem mo_small {n : Nat} {st : Nat → StV} (h : moB n st = true) : n ≤ 40 ∧ (∀ i, i < n → (st i).n ≤ 8) ∧ ∀ i j, i < n → j < (st i).n → ((st i).ch j).n ≤ 8 :=
  ⟨(moB_n h).2, fun _ hi => (stB_n (moB_st h hi)).2.1, fun _ _ hi hj => (bsB_n (chB_bs (stB_ch (moB_st h hi) hj))).2⟩
theorem putM {w wx : World} {A : Option Addr} {n c g lo : Nat} {st : Nat → StV} {v : Value} (hB : Below w.heap.size w wx) (hg : w.heap.size ≤ g) (hlo : g < lo) (hb : B1 wx g 24 v) (hL : LstP (fun b => lo ≤ b) wx A n st) :
    B1 (wx.setCell ⟨g, 0, none⟩ (.slice A n c)) g 24 (.slice A n c) ∧ Lst (wx.setCell ⟨g, 0, none⟩ (.slice A n c)) A n st ∧ Below w.heap.size w (wx.setCell ⟨g, 0, none⟩ (.slice A n c)) :=
  ⟨hb.put _, (hL.stay (w' := wx.setCell ⟨g, 0, none⟩ (.slice A n c)) (by simp [World.setCell]) fun b _ hp => Below.heap_setCell _ ⟨g, 0, none⟩ _ b (by have hp' : lo ≤ b := hp; show b ≠ g; omega)).to, hB.setCell (p := ⟨g, 0, none⟩) hg _⟩
theorem alloc_3 {w Z : World} {T T' T'' : Nat} {a b c : Value} (h : ((w.alloc (.cells #[a] T)).alloc (.cells #[b] T')).alloc (.cells #[c] T'') = Z) : Below w.heap.size w Z ∧ B1 Z w.heap.size T a ∧ B1 Z (w.heap.size + 1) T' b ∧ B1 Z (w.heap.size + 2) T'' c := by
  have e1 : (w.alloc (.cells #[a] T)).heap.size = w.heap.size + 1 := by simp
  have e2 : ((w.alloc (.cells #[a] T)).alloc (.cells #[b] T')).heap.size = w.heap.size + 2 := by simp
  have h3 := B1.new ((w.alloc (.cells #[a] T)).alloc (.cells #[b] T')) T'' c
  rw [e2, h] at h3
  have h2 := (B1.new (w.alloc (.cells #[a] T)) T' b).keep (below_alloc _ (.cells #[c] T''))
  rw [e1, h] at h2
  have h1 := ((B1.new w T a).keep (below_alloc _ (.cells #[b] T'))).keep (below_alloc _ (.cells #[c] T''))
  rw [h] at h1
  have hb := (below_alloc w (.cells #[a] T)).trans (((below_alloc _ (.cells #[b] T')).trans ((below_alloc _ (.cells #[c] T'')).mono (below_alloc _ _).size)).mono (below_alloc _ _).size)
  rw [h] at hb
  exact ⟨hb, h1, h2, h3⟩
theorem alloc_4 {w Z : World} {T T' T'' U3 : Nat} {a b c d : Value} (h : (((w.alloc (.cells #[a] T)).alloc (.cells #[b] T')).alloc (.cells #[c] T'')).alloc (.cells #[d] U3) = Z) : Below w.heap.size w Z ∧ B1 Z w.heap.size T a ∧ B1 Z (w.heap.size + 1) T' b ∧ B1 Z (w.heap.size + 2) T'' c ∧ B1 Z (w.heap.size + 3) U3 d := by
  have e0 : (((w.alloc (.cells #[a] T)).alloc (.cells #[b] T')).alloc (.cells #[c] T'')).heap.size = w.heap.size + 3 := by simp
  obtain ⟨h1, h2, h3, h4⟩ := alloc_3 (w := w) (T := T) (T' := T') (T'' := T'') (a := a) (b := b) (c := c) rfl
  generalize ((w.alloc (.cells #[a] T)).alloc (.cells #[b] T')).alloc (.cells #[c] T'') = Y at *
  have hb := below_alloc Y (.cells #[d] U3)
  have h5 := B1.new Y U3 d
  rw [h] at hb h5
  rw [e0] at h5
  exact ⟨h1.trans (hb.mono h1.size), h2.keep hb, h3.keep hb, h4.keep hb, h5⟩
theorem B1.mbx {w : World} {g T : Nat} {A : Option Addr} {n c : Nat} (h : B1 w g T (.slice A n c)) : MBx w g A n c := ⟨h.out, h.lt⟩
theorem mfix_no0 (A B : Option Addr) (n c m d : Nat) (w : World) (HV : Hid (CV 20 #[.agg #[.slice A n c]] (.bool false) w)) :
    Calls Tryz.prog 28 #[.agg #[.slice A n c], .slice B m d] w fun e w' => e = .returned (.tuple #[.agg #[.slice none 0 0], .int .i64 1]) ∧ Below w.heap.size w w' := by
  go_enter Tryz.func28, Tryz.ntmps28
  go_upto_region 1 with fail
  generalize hZ : World.alloc _ _ = Z
  have HZ : Hid (Below w.heap.size w Z ∧ B1 Z (w.heap.size) 24 (.slice A n c) ∧ B1 Z (w.heap.size + 1) 25 (.slice B m d) ∧ B1 Z (w.heap.size + 2) 24 (.slice none 0 0)) := Lib.hid (alloc_3 hZ)
  clear hZ
  have HB0 := Lib.hid HZ.out.1
  have X0 := Lib.hid HZ.out.2.1
  have X1 := Lib.hid HZ.out.2.2.1
  have X2 := Lib.hid HZ.out.2.2.2
  clear HZ
  have x0 := X0.out.out
  have x1 := X1.out.out
  go_wp2_with fail
  clear x0 x1
  (with_reducible refine (HV.out.run HB0.out).mono ?_)
  rintro e w1 ⟨rfl, hB⟩
  replace X0 := Lib.hid (X0.out.keep hB)
  replace X1 := Lib.hid (X1.out.keep hB)
  replace X2 := Lib.hid (X2.out.keep hB)
  replace HB0 := Lib.hid (HB0.out.trans (hB.mono HB0.out.size))
  clear hB
  have r0 := X2.out.out
  have f0 := X2.out.frz
  have hl := X2.out.lt
  have HP := Lib.hid (X2.out.put (.slice none 0 0))
  have HQ := Lib.hid (HB0.out.setCell (p := ⟨w.heap.size + 2, 0, none⟩) (Nat.le_add_right _ _) (.slice none 0 0))
  have x0 := X0.out.out
  have x1 := X1.out.out
  generalize w.heap.size + 2 = gr at *
  go_wp2_with fail
  generalize World.setCell _ _ _ = V at *
  have c0 := HP.out.out
  exact bodyPost_ret (v := .tuple #[.agg #[.slice none 0 0], .int .i64 1]) (by simp [results, Tryz.results28, go_sem, c0]) rfl ⟨rfl, HQ.out⟩
theorem mfix_no1 (A B : Option Addr) (n c m d : Nat) (w : World) (HV : Hid (CV 20 #[.agg #[.slice A n c]] (.bool true) w)) (HS : Hid (CV 52 #[.agg #[.slice A n c], .slice B m d] (.bool false) w)) :
    Calls Tryz.prog 28 #[.agg #[.slice A n c], .slice B m d] w fun e w' => e = .returned (.tuple #[.agg #[.slice none 0 0], .int .i64 1]) ∧ Below w.heap.size w w' := by
  go_enter Tryz.func28, Tryz.ntmps28
  go_upto_region 1 with fail
  generalize hZ : World.alloc _ _ = Z
  have HZ : Hid (Below w.heap.size w Z ∧ B1 Z (w.heap.size) 24 (.slice A n c) ∧ B1 Z (w.heap.size + 1) 25 (.slice B m d) ∧ B1 Z (w.heap.size + 2) 24 (.slice none 0 0)) := Lib.hid (alloc_3 hZ)
  clear hZ
  have HB0 := Lib.hid HZ.out.1
  have X0 := Lib.hid HZ.out.2.1
  have X1 := Lib.hid HZ.out.2.2.1
  have X2 := Lib.hid HZ.out.2.2.2
  clear HZ
  have x0 := X0.out.out
  have x1 := X1.out.out
  go_wp2_with fail
  clear x0 x1
  (with_reducible refine (HV.out.run HB0.out).mono ?_)
  rintro e w1 ⟨rfl, hB⟩
  replace X0 := Lib.hid (X0.out.keep hB)
  replace X1 := Lib.hid (X1.out.keep hB)
  replace X2 := Lib.hid (X2.out.keep hB)
  replace HB0 := Lib.hid (HB0.out.trans (hB.mono HB0.out.size))
  clear hB
  have x0 := X0.out.out
  have x1 := X1.out.out
  go_wp2_with fail
  clear x0 x1
  (with_reducible refine (HS.out.run HB0.out).mono ?_)
  rintro e w2 ⟨rfl, hB⟩
  replace X0 := Lib.hid (X0.out.keep hB)
  replace X1 := Lib.hid (X1.out.keep hB)
  replace X2 := Lib.hid (X2.out.keep hB)
  replace HB0 := Lib.hid (HB0.out.trans (hB.mono HB0.out.size))
  clear hB
  have r0 := X2.out.out
  have f0 := X2.out.frz
  have hl := X2.out.lt
  have HP := Lib.hid (X2.out.put (.slice none 0 0))
  have HQ := Lib.hid (HB0.out.setCell (p := ⟨w.heap.size + 2, 0, none⟩) (Nat.le_add_right _ _) (.slice none 0 0))
  have x0 := X0.out.out
  have x1 := X1.out.out
  generalize w.heap.size + 2 = gr at *
  go_wp2_with fail
  generalize World.setCell _ _ _ = V at *
  have c0 := HP.out.out
  exact bodyPost_ret (v := .tuple #[.agg #[.slice none 0 0], .int .i64 1]) (by simp [results, Tryz.results28, go_sem, c0]) rfl ⟨rfl, HQ.out⟩
theorem mfix_no (A B : Option Addr) (n c m d : Nat) (b1 b2 : Bool) (w : World) (HV : CV 20 #[.agg #[.slice A n c]] (.bool b1) w) (HS : CV 52 #[.agg #[.slice A n c], .slice B m d] (.bool b2) w) (hb : (b1 && b2) = false) :
    Calls Tryz.prog 28 #[.agg #[.slice A n c], .slice B m d] w fun e w' => e = .returned (.tuple #[.agg #[.slice none 0 0], .int .i64 1]) ∧ Below w.heap.size w w' := by
  cases b1 with
  | false => exact mfix_no0 A B n c m d w HV
  | true =>
    cases b2 with
    | false => exact mfix_no1 A B n c m d w HV HS
    | true => cases hb
theorem mfix_ok (A B : Option Addr) (n c d : Nat) (st : Nat → StV) (f : Nat → Int) (w : World) (hM : moB n st = true) (hf : ∀ i, i < n → 0 ≤ f i ∧ (f i).toNat < (st i).n) (hA : Lst w A n st) (hB : Lin w B n f) (HV : Hid (CV 20 #[.agg #[.slice A n c]] (.bool true) w)) (HS : Hid (CV 52 #[.agg #[.slice A n c], .slice B n d] (.bool true) w)) :
    Calls Tryz.prog 28 #[.agg #[.slice A n c], .slice B n d] w (RetMd n (fixT st f) 0 w) := by
  obtain ⟨a1, a2, a3⟩ := mo_small hM
  have HF := Lib.hid hf
  have HA := Lib.hid hA
  have HBB := Lib.hid hB
  have HN1 : Hid (n ≤ 1000) := Lib.hid (by omega)
  have HN2 : Hid (∀ i, i < n → (fixT st f i).n ≤ 1000) := Lib.hid (fun i hi => by show 1 ≤ 1000; omega)
  have HN3 : Hid (∀ i j, i < n → j < (fixT st f i).n → ((fixT st f i).ch j).n ≤ 1000) := Lib.hid (fun i j hi hj => by have := a3 i (f i).toNat hi (hf i hi).2; show ((st i).ch (f i).toNat).n ≤ 1000; omega)
  clear hM hf hA hB a1 a2 a3
  go_enter Tryz.func28, Tryz.ntmps28
  go_upto_region 1 with fail
  generalize hZ : World.alloc _ _ = Z
  have HZ : Hid (Below w.heap.size w Z ∧ B1 Z (w.heap.size) 24 (.slice A n c) ∧ B1 Z (w.heap.size + 1) 25 (.slice B n d) ∧ B1 Z (w.heap.size + 2) 24 (.slice none 0 0)) := Lib.hid (alloc_3 hZ)
  clear hZ
  have HB0 := Lib.hid HZ.out.1
  have X0 := Lib.hid HZ.out.2.1
  have X1 := Lib.hid HZ.out.2.2.1
  have X2 := Lib.hid HZ.out.2.2.2
  clear HZ
  have x0 := X0.out.out
  have x1 := X1.out.out
  go_wp2_with fail
  clear x0 x1
  (with_reducible refine (HV.out.run HB0.out).mono ?_)
  rintro e w1 ⟨rfl, hB⟩
  replace X0 := Lib.hid (X0.out.keep hB)
  replace X1 := Lib.hid (X1.out.keep hB)
  replace X2 := Lib.hid (X2.out.keep hB)
  replace HB0 := Lib.hid (HB0.out.trans (hB.mono HB0.out.size))
  clear hB
  have x0 := X0.out.out
  have x1 := X1.out.out
  go_wp2_with fail
  clear x0 x1
  (with_reducible refine (HS.out.run HB0.out).mono ?_)
  rintro e w2 ⟨rfl, hB⟩
  replace X0 := Lib.hid (X0.out.keep hB)
  replace X1 := Lib.hid (X1.out.keep hB)
  replace X2 := Lib.hid (X2.out.keep hB)
  replace HB0 := Lib.hid (HB0.out.trans (hB.mono HB0.out.size))
  clear hB
  have x0 := X0.out.out
  have x1 := X1.out.out
  go_wp2_with fail
  clear x0 x1
  (with_reducible refine (chg_fix _ _ n (fixT st f) _ HN1.out HN2.out HN3.out ?hcl).mono ?_)
  case hcl => exact Lib.hid fun ix hi wx hx => fix1_any _ _ A B n c n d st f ix wx (Lib.hid (X0.out.keep hx).mbx) (Lib.hid (X1.out.keep hx).mbx) (HA.out.keep (HB0.out.trans (hx.mono HB0.out.size))) (HBB.out.keep (HB0.out.trans (hx.mono HB0.out.size))) hi hi (HF.out ix hi).1 (HF.out ix hi).2
  rintro e w3 ⟨A5, c5, st5, rfl, hL, hl, hB⟩
  have hlo := X2.out.lt
  have HLL := Lib.hid hl
  have HPM := Lib.hid (putM (c := c5) (HB0.out.trans (hB.mono HB0.out.size)) (show w.heap.size ≤ w.heap.size + 2 by omega) hlo (X2.out.keep hB) hL)
  have hr := X2.out.keep hB
  have r0 := hr.out
  have f0 := hr.frz
  have hrl := hr.lt
  clear hr hL hl hB hlo X0 X1 X2
  generalize w.heap.size + 2 = gr at *
  go_wp2_with fail
  generalize World.setCell _ _ _ = V at *
  have c0 := HPM.out.1.out
  exact bodyPost_ret (v := .tuple #[.agg #[.slice A5 n c5], .int .i64 0]) (by simp [results, Tryz.results28, go_sem, c0]) rfl ⟨_, _, st5, rfl, HPM.out.2.1, HLL.out, HPM.out.2.2⟩
theorem mfor_no0 (A B : Option Addr) (n c m d : Nat) (pl : Int) (w : World) (HV : Hid (CV 20 #[.agg #[.slice A n c]] (.bool false) w)) :
    Calls Tryz.prog 29 #[.agg #[.slice A n c], .slice B m d, .int .i64 pl] w fun e w' => e = .returned (.tuple #[.agg #[.slice none 0 0], .int .i64 1]) ∧ Below w.heap.size w w' := by
  go_enter Tryz.func29, Tryz.ntmps29
  go_upto_region 1 with fail
  generalize hZ : World.alloc _ _ = Z
  have HZ : Hid (Below w.heap.size w Z ∧ B1 Z (w.heap.size) 24 (.slice A n c) ∧ B1 Z (w.heap.size + 1) 25 (.slice B m d) ∧ B1 Z (w.heap.size + 2) 3 (.int .i64 pl) ∧ B1 Z (w.heap.size + 3) 24 (.slice none 0 0)) := Lib.hid (alloc_4 hZ)
  clear hZ
  have HB0 := Lib.hid HZ.out.1
  have X0 := Lib.hid HZ.out.2.1
  have X1 := Lib.hid HZ.out.2.2.1
  have X2 := Lib.hid HZ.out.2.2.2.1
  have X3 := Lib.hid HZ.out.2.2.2.2
  clear HZ
  have x0 := X0.out.out
  have x1 := X1.out.out
  have x2 := X2.out.out
  go_wp2_with fail
  clear x0 x1 x2
  (with_reducible refine (HV.out.run HB0.out).mono ?_)
  rintro e w1 ⟨rfl, hB⟩
  replace X0 := Lib.hid (X0.out.keep hB)
  replace X1 := Lib.hid (X1.out.keep hB)
  replace X2 := Lib.hid (X2.out.keep hB)
  replace X3 := Lib.hid (X3.out.keep hB)
  replace HB0 := Lib.hid (HB0.out.trans (hB.mono HB0.out.size))
  clear hB
  have r0 := X3.out.out
  have f0 := X3.out.frz
  have hl := X3.out.lt
  have HP := Lib.hid (X3.out.put (.slice none 0 0))
  have HQ := Lib.hid (HB0.out.setCell (p := ⟨w.heap.size + 3, 0, none⟩) (Nat.le_add_right _ _) (.slice none 0 0))
  have x0 := X0.out.out
  have x1 := X1.out.out
  have x2 := X2.out.out
  generalize w.heap.size + 3 = gr at *
  go_wp2_with fail
  generalize World.setCell _ _ _ = V at *
  have c0 := HP.out.out
  exact bodyPost_ret (v := .tuple #[.agg #[.slice none 0 0], .int .i64 1]) (by simp [results, Tryz.results29, go_sem, c0]) rfl ⟨rfl, HQ.out⟩
theorem mfor_no1 (A B : Option Addr) (n c m d : Nat) (pl : Int) (w : World) (HV : Hid (CV 20 #[.agg #[.slice A n c]] (.bool true) w)) (HS : Hid (CV 52 #[.agg #[.slice A n c], .slice B m d] (.bool false) w)) :
    Calls Tryz.prog 29 #[.agg #[.slice A n c], .slice B m d, .int .i64 pl] w fun e w' => e = .returned (.tuple #[.agg #[.slice none 0 0], .int .i64 1]) ∧ Below w.heap.size w w' := by
  go_enter Tryz.func29, Tryz.ntmps29
  go_upto_region 1 with fail
  generalize hZ : World.alloc _ _ = Z
  have HZ : Hid (Below w.heap.size w Z ∧ B1 Z (w.heap.size) 24 (.slice A n c) ∧ B1 Z (w.heap.size + 1) 25 (.slice B m d) ∧ B1 Z (w.heap.size + 2) 3 (.int .i64 pl) ∧ B1 Z (w.heap.size + 3) 24 (.slice none 0 0)) := Lib.hid (alloc_4 hZ)
  clear hZ
  have HB0 := Lib.hid HZ.out.1
  have X0 := Lib.hid HZ.out.2.1
  have X1 := Lib.hid HZ.out.2.2.1
  have X2 := Lib.hid HZ.out.2.2.2.1
  have X3 := Lib.hid HZ.out.2.2.2.2
  clear HZ
  have x0 := X0.out.out
  have x1 := X1.out.out
  have x2 := X2.out.out
  go_wp2_with fail
  clear x0 x1 x2
  (with_reducible refine (HV.out.run HB0.out).mono ?_)
  rintro e w1 ⟨rfl, hB⟩
  replace X0 := Lib.hid (X0.out.keep hB)
  replace X1 := Lib.hid (X1.out.keep hB)
  replace X2 := Lib.hid (X2.out.keep hB)
  replace X3 := Lib.hid (X3.out.keep hB)
  replace HB0 := Lib.hid (HB0.out.trans (hB.mono HB0.out.size))
  clear hB
  have x0 := X0.out.out
  have x1 := X1.out.out
  have x2 := X2.out.out
  go_wp2_with fail
  clear x0 x1 x2
  (with_reducible refine (HS.out.run HB0.out).mono ?_)
  rintro e w2 ⟨rfl, hB⟩
  replace X0 := Lib.hid (X0.out.keep hB)
  replace X1 := Lib.hid (X1.out.keep hB)
  replace X2 := Lib.hid (X2.out.keep hB)
  replace X3 := Lib.hid (X3.out.keep hB)
  replace HB0 := Lib.hid (HB0.out.trans (hB.mono HB0.out.size))
  clear hB
  have r0 := X3.out.out
  have f0 := X3.out.frz
  have hl := X3.out.lt
  have HP := Lib.hid (X3.out.put (.slice none 0 0))
  have HQ := Lib.hid (HB0.out.setCell (p := ⟨w.heap.size + 3, 0, none⟩) (Nat.le_add_right _ _) (.slice none 0 0))
  have x0 := X0.out.out
  have x1 := X1.out.out
  have x2 := X2.out.out
  generalize w.heap.size + 3 = gr at *
  go_wp2_with fail
  generalize World.setCell _ _ _ = V at *
  have c0 := HP.out.out
  exact bodyPost_ret (v := .tuple #[.agg #[.slice none 0 0], .int .i64 1]) (by simp [results, Tryz.results29, go_sem, c0]) rfl ⟨rfl, HQ.out⟩
theorem mfor_no (A B : Option Addr) (n c m d : Nat) (pl : Int) (b1 b2 : Bool) (w : World) (HV : CV 20 #[.agg #[.slice A n c]] (.bool b1) w) (HS : CV 52 #[.agg #[.slice A n c], .slice B m d] (.bool b2) w) (hb : (b1 && b2) = false) :
    Calls Tryz.prog 29 #[.agg #[.slice A n c], .slice B m d, .int .i64 pl] w fun e w' => e = .returned (.tuple #[.agg #[.slice none 0 0], .int .i64 1]) ∧ Below w.heap.size w w' := by
  cases b1 with
  | false => exact mfor_no0 A B n c m d pl w HV
  | true =>
    cases b2 with
    | false => exact mfor_no1 A B n c m d pl w HV HS
    | true => cases hb
theorem mfor_far_a (A B : Option Addr) (n c m d : Nat) (pl : Int) (w : World) (hp : decide (pl < 0) = true) (HV : Hid (CV 20 #[.agg #[.slice A n c]] (.bool true) w)) (HS : Hid (CV 52 #[.agg #[.slice A n c], .slice B m d] (.bool true) w)) :
    Calls Tryz.prog 29 #[.agg #[.slice A n c], .slice B m d, .int .i64 pl] w fun e w' => e = .returned (.tuple #[.agg #[.slice none 0 0], .int .i64 6]) ∧ Below w.heap.size w w' := by
  go_enter Tryz.func29, Tryz.ntmps29
  go_upto_region 1 with fail
  generalize hZ : World.alloc _ _ = Z
  have HZ : Hid (Below w.heap.size w Z ∧ B1 Z (w.heap.size) 24 (.slice A n c) ∧ B1 Z (w.heap.size + 1) 25 (.slice B m d) ∧ B1 Z (w.heap.size + 2) 3 (.int .i64 pl) ∧ B1 Z (w.heap.size + 3) 24 (.slice none 0 0)) := Lib.hid (alloc_4 hZ)
  clear hZ
  have HB0 := Lib.hid HZ.out.1
  have X0 := Lib.hid HZ.out.2.1
  have X1 := Lib.hid HZ.out.2.2.1
  have X2 := Lib.hid HZ.out.2.2.2.1
  have X3 := Lib.hid HZ.out.2.2.2.2
  clear HZ
  have x0 := X0.out.out
  have x1 := X1.out.out
  have x2 := X2.out.out
  go_wp2_with fail
  clear x0 x1 x2
  (with_reducible refine (HV.out.run HB0.out).mono ?_)
  rintro e w1 ⟨rfl, hB⟩
  replace X0 := Lib.hid (X0.out.keep hB)
  replace X1 := Lib.hid (X1.out.keep hB)
  replace X2 := Lib.hid (X2.out.keep hB)
  replace X3 := Lib.hid (X3.out.keep hB)
  replace HB0 := Lib.hid (HB0.out.trans (hB.mono HB0.out.size))
  clear hB
  have x0 := X0.out.out
  have x1 := X1.out.out
  have x2 := X2.out.out
  go_wp2_with fail
  clear x0 x1 x2
  (with_reducible refine (HS.out.run HB0.out).mono ?_)
  rintro e w2 ⟨rfl, hB⟩
  replace X0 := Lib.hid (X0.out.keep hB)
  replace X1 := Lib.hid (X1.out.keep hB)
  replace X2 := Lib.hid (X2.out.keep hB)
  replace X3 := Lib.hid (X3.out.keep hB)
  replace HB0 := Lib.hid (HB0.out.trans (hB.mono HB0.out.size))
  clear hB
  have r0 := X3.out.out
  have f0 := X3.out.frz
  have hl := X3.out.lt
  have HP := Lib.hid (X3.out.put (.slice none 0 0))
  have HQ := Lib.hid (HB0.out.setCell (p := ⟨w.heap.size + 3, 0, none⟩) (Nat.le_add_right _ _) (.slice none 0 0))
  have x0 := X0.out.out
  have x1 := X1.out.out
  have x2 := X2.out.out
  generalize w.heap.size + 3 = gr at *
  go_wp2_with fail
  generalize World.setCell _ _ _ = V at *
  have c0 := HP.out.out
  exact bodyPost_ret (v := .tuple #[.agg #[.slice none 0 0], .int .i64 6]) (by simp [results, Tryz.results29, go_sem, c0]) rfl ⟨rfl, HQ.out⟩
theorem mfor_far_b (A B : Option Addr) (n c m d : Nat) (pl : Int) (w : World) (hp : decide (pl < 0) = false) (hp2 : decide (1 < pl) = true) (HV : Hid (CV 20 #[.agg #[.slice A n c]] (.bool true) w)) (HS : Hid (CV 52 #[.agg #[.slice A n c], .slice B m d] (.bool true) w)) :
    Calls Tryz.prog 29 #[.agg #[.slice A n c], .slice B m d, .int .i64 pl] w fun e w' => e = .returned (.tuple #[.agg #[.slice none 0 0], .int .i64 6]) ∧ Below w.heap.size w w' := by
  go_enter Tryz.func29, Tryz.ntmps29
  go_upto_region 1 with fail
  generalize hZ : World.alloc _ _ = Z
  have HZ : Hid (Below w.heap.size w Z ∧ B1 Z (w.heap.size) 24 (.slice A n c) ∧ B1 Z (w.heap.size + 1) 25 (.slice B m d) ∧ B1 Z (w.heap.size + 2) 3 (.int .i64 pl) ∧ B1 Z (w.heap.size + 3) 24 (.slice none 0 0)) := Lib.hid (alloc_4 hZ)
  clear hZ
  have HB0 := Lib.hid HZ.out.1
  have X0 := Lib.hid HZ.out.2.1
  have X1 := Lib.hid HZ.out.2.2.1
  have X2 := Lib.hid HZ.out.2.2.2.1
  have X3 := Lib.hid HZ.out.2.2.2.2
  clear HZ
  have x0 := X0.out.out
  have x1 := X1.out.out
  have x2 := X2.out.out
  go_wp2_with fail
  clear x0 x1 x2
  (with_reducible refine (HV.out.run HB0.out).mono ?_)
  rintro e w1 ⟨rfl, hB⟩
  replace X0 := Lib.hid (X0.out.keep hB)
  replace X1 := Lib.hid (X1.out.keep hB)
  replace X2 := Lib.hid (X2.out.keep hB)
  replace X3 := Lib.hid (X3.out.keep hB)
  replace HB0 := Lib.hid (HB0.out.trans (hB.mono HB0.out.size))
  clear hB
  have x0 := X0.out.out
  have x1 := X1.out.out
  have x2 := X2.out.out
  go_wp2_with fail
  clear x0 x1 x2
  (with_reducible refine (HS.out.run HB0.out).mono ?_)
  rintro e w2 ⟨rfl, hB⟩
  replace X0 := Lib.hid (X0.out.keep hB)
  replace X1 := Lib.hid (X1.out.keep hB)
  replace X2 := Lib.hid (X2.out.keep hB)
  replace X3 := Lib.hid (X3.out.keep hB)
  replace HB0 := Lib.hid (HB0.out.trans (hB.mono HB0.out.size))
  clear hB
  have r0 := X3.out.out
  have f0 := X3.out.frz
  have hl := X3.out.lt
  have HP := Lib.hid (X3.out.put (.slice none 0 0))
  have HQ := Lib.hid (HB0.out.setCell (p := ⟨w.heap.size + 3, 0, none⟩) (Nat.le_add_right _ _) (.slice none 0 0))
  have x0 := X0.out.out
  have x1 := X1.out.out
  have x2 := X2.out.out
  generalize w.heap.size + 3 = gr at *
  go_wp2_with fail
  generalize World.setCell _ _ _ = V at *
  have c0 := HP.out.out
  exact bodyPost_ret (v := .tuple #[.agg #[.slice none 0 0], .int .i64 6]) (by simp [results, Tryz.results29, go_sem, c0]) rfl ⟨rfl, HQ.out⟩
theorem mfor_far (A B : Option Addr) (n c m d : Nat) (pl : Int) (w : World) (hp : ¬ (pl = 0 ∨ pl = 1)) (HV : CV 20 #[.agg #[.slice A n c]] (.bool true) w) (HS : CV 52 #[.agg #[.slice A n c], .slice B m d] (.bool true) w) :
    Calls Tryz.prog 29 #[.agg #[.slice A n c], .slice B m d, .int .i64 pl] w fun e w' => e = .returned (.tuple #[.agg #[.slice none 0 0], .int .i64 6]) ∧ Below w.heap.size w w' := by
  by_cases h : pl < 0
  · exact mfor_far_a A B n c m d pl w (decide_eq_true h) HV HS
  · exact mfor_far_b A B n c m d pl w (decide_eq_false h) (decide_eq_true (by omega)) HV HS
theorem mfor_ok (A B : Option Addr) (n c d : Nat) (st : Nat → StV) (f : Nat → Int) (pl : Int) (w : World) (hp : pl = 0 ∨ pl = 1) (hM : moB n st = true) (hf : ∀ i, i < n → 0 ≤ f i ∧ (f i).toNat < (st i).n) (hA : Lst w A n st) (hB : Lin w B n f) (HV : Hid (CV 20 #[.agg #[.slice A n c]] (.bool true) w)) (HS : Hid (CV 52 #[.agg #[.slice A n c], .slice B n d] (.bool true) w)) :
    Calls Tryz.prog 29 #[.agg #[.slice A n c], .slice B n d, .int .i64 pl] w (RetMd n (forT st f pl) 0 w) := by
  obtain ⟨a1, a2, a3⟩ := mo_small hM
  have HF := Lib.hid hf
  have HA := Lib.hid hA
  have HBB := Lib.hid hB
  have HN1 : Hid (n ≤ 1000) := Lib.hid (by omega)
  have HN2 : Hid (∀ i, i < n → (forT st f pl i).n ≤ 1000) := Lib.hid (fun i hi => by
    have := a2 i hi
    unfold forT
    split
    · show 1 ≤ 1000; omega
    · omega)
  have HN3 : Hid (∀ i j, i < n → j < (forT st f pl i).n → ((forT st f pl i).ch j).n ≤ 1000) := Lib.hid (fun i j hi hj => by
    unfold forT at hj ⊢
    split at hj
    · rename_i e
      rw [if_pos e]
      have := a3 i (f i).toNat hi (hf i hi).2
      show ((st i).ch (f i).toNat).n ≤ 1000
      omega
    · rename_i e
      rw [if_neg e]
      have := a3 i j hi hj
      omega)
  have p1 : ¬ pl < 0 := by omega
  have p2 : ¬ 1 < pl := by omega
  clear hM hf hA hB a1 a2 a3 hp
  go_enter Tryz.func29, Tryz.ntmps29
  go_upto_region 1 with fail
  generalize hZ : World.alloc _ _ = Z
  have HZ : Hid (Below w.heap.size w Z ∧ B1 Z (w.heap.size) 24 (.slice A n c) ∧ B1 Z (w.heap.size + 1) 25 (.slice B n d) ∧ B1 Z (w.heap.size + 2) 3 (.int .i64 pl) ∧ B1 Z (w.heap.size + 3) 24 (.slice none 0 0)) := Lib.hid (alloc_4 hZ)
  clear hZ
  have HB0 := Lib.hid HZ.out.1
  have X0 := Lib.hid HZ.out.2.1
  have X1 := Lib.hid HZ.out.2.2.1
  have X2 := Lib.hid HZ.out.2.2.2.1
  have X3 := Lib.hid HZ.out.2.2.2.2
  clear HZ
  have x0 := X0.out.out
  have x1 := X1.out.out
  have x2 := X2.out.out
  go_wp2_with fail
  clear x0 x1 x2
  (with_reducible refine (HV.out.run HB0.out).mono ?_)
  rintro e w1 ⟨rfl, hB⟩
  replace X0 := Lib.hid (X0.out.keep hB)
  replace X1 := Lib.hid (X1.out.keep hB)
  replace X2 := Lib.hid (X2.out.keep hB)
  replace X3 := Lib.hid (X3.out.keep hB)
  replace HB0 := Lib.hid (HB0.out.trans (hB.mono HB0.out.size))
  clear hB
  have x0 := X0.out.out
  have x1 := X1.out.out
  have x2 := X2.out.out
  go_wp2_with fail
  clear x0 x1 x2
  (with_reducible refine (HS.out.run HB0.out).mono ?_)
  rintro e w2 ⟨rfl, hB⟩
  replace X0 := Lib.hid (X0.out.keep hB)
  replace X1 := Lib.hid (X1.out.keep hB)
  replace X2 := Lib.hid (X2.out.keep hB)
  replace X3 := Lib.hid (X3.out.keep hB)
  replace HB0 := Lib.hid (HB0.out.trans (hB.mono HB0.out.size))
  clear hB
  have x0 := X0.out.out
  have x1 := X1.out.out
  have x2 := X2.out.out
  go_wp2_with fail
  clear x0 x1 x2
  (with_reducible refine (chg_for _ _ _ n (forT st f pl) _ HN1.out HN2.out HN3.out ?hcl).mono ?_)
  case hcl => exact Lib.hid fun ix hi wx hx => for1_any _ _ _ pl A B n c n d st f ix wx (Lib.hid (X0.out.keep hx).mbx) (Lib.hid ⟨(X2.out.keep hx).lt, (X2.out.keep hx).out⟩) (Lib.hid (X1.out.keep hx).mbx) (HA.out.keep (HB0.out.trans (hx.mono HB0.out.size))) (HBB.out.keep (HB0.out.trans (hx.mono HB0.out.size))) hi hi (HF.out ix hi).1 (HF.out ix hi).2
  rintro e w3 ⟨A5, c5, st5, rfl, hL, hl, hB⟩
  have hlo := X3.out.lt
  have HLL := Lib.hid hl
  have HPM := Lib.hid (putM (c := c5) (HB0.out.trans (hB.mono HB0.out.size)) (show w.heap.size ≤ w.heap.size + 3 by omega) hlo (X3.out.keep hB) hL)
  have hr := X3.out.keep hB
  have r0 := hr.out
  have f0 := hr.frz
  have hrl := hr.lt
  clear hr hL hl hB hlo X0 X1 X2 X3
  generalize w.heap.size + 3 = gr at *
  go_wp2_with fail
  generalize World.setCell _ _ _ = V at *
  have c0 := HPM.out.1.out
  exact bodyPost_ret (v := .tuple #[.agg #[.slice A5 n c5], .int .i64 0]) (by simp [results, Tryz.results29, go_sem, c0]) rfl ⟨_, _, st5, rfl, HPM.out.2.1, HLL.out, HPM.out.2.2⟩
theorem mgol_no0 (A D : Option Addr) (n c k q : Nat) (w : World) (HV : Hid (CV 20 #[.agg #[.slice A n c]] (.bool false) w)) :
    Calls Tryz.prog 30 #[.agg #[.slice A n c], .slice D k q] w fun e w' => e = .returned (.tuple #[.agg #[.slice none 0 0], .int .i64 1]) ∧ Below w.heap.size w w' := by
  go_enter Tryz.func30, Tryz.ntmps30
  go_upto_region 1 with fail
  generalize hZ : World.alloc _ _ = Z
  have HZ : Hid (Below w.heap.size w Z ∧ B1 Z (w.heap.size) 24 (.slice A n c) ∧ B1 Z (w.heap.size + 1) 25 (.slice D k q) ∧ B1 Z (w.heap.size + 2) 24 (.slice none 0 0)) := Lib.hid (alloc_3 hZ)
  clear hZ
  have HB0 := Lib.hid HZ.out.1
  have X0 := Lib.hid HZ.out.2.1
  have X1 := Lib.hid HZ.out.2.2.1
  have X2 := Lib.hid HZ.out.2.2.2
  clear HZ
  have x0 := X0.out.out
  have x1 := X1.out.out
  go_wp2_with fail
  clear x0 x1
  (with_reducible refine (HV.out.run HB0.out).mono ?_)
  rintro e w1 ⟨rfl, hB⟩
  replace X0 := Lib.hid (X0.out.keep hB)
  replace X1 := Lib.hid (X1.out.keep hB)
  replace X2 := Lib.hid (X2.out.keep hB)
  replace HB0 := Lib.hid (HB0.out.trans (hB.mono HB0.out.size))
  clear hB
  have r0 := X2.out.out
  have f0 := X2.out.frz
  have hl := X2.out.lt
  have HP := Lib.hid (X2.out.put (.slice none 0 0))
  have HQ := Lib.hid (HB0.out.setCell (p := ⟨w.heap.size + 2, 0, none⟩) (Nat.le_add_right _ _) (.slice none 0 0))
  have x0 := X0.out.out
  have x1 := X1.out.out
  generalize w.heap.size + 2 = gr at *
  go_wp2_with fail
  generalize World.setCell _ _ _ = V at *
  have c0 := HP.out.out
  exact bodyPost_ret (v := .tuple #[.agg #[.slice none 0 0], .int .i64 1]) (by simp [results, Tryz.results30, go_sem, c0]) rfl ⟨rfl, HQ.out⟩
theorem mgol_no1 (A D : Option Addr) (n c k q : Nat) (w : World) (HV : Hid (CV 20 #[.agg #[.slice A n c]] (.bool true) w)) (HS : Hid (CV 51 #[.agg #[.slice A n c], .slice D k q] (.bool false) w)) :
    Calls Tryz.prog 30 #[.agg #[.slice A n c], .slice D k q] w fun e w' => e = .returned (.tuple #[.agg #[.slice none 0 0], .int .i64 1]) ∧ Below w.heap.size w w' := by
  go_enter Tryz.func30, Tryz.ntmps30
  go_upto_region 1 with fail
  generalize hZ : World.alloc _ _ = Z
  have HZ : Hid (Below w.heap.size w Z ∧ B1 Z (w.heap.size) 24 (.slice A n c) ∧ B1 Z (w.heap.size + 1) 25 (.slice D k q) ∧ B1 Z (w.heap.size + 2) 24 (.slice none 0 0)) := Lib.hid (alloc_3 hZ)
  clear hZ
  have HB0 := Lib.hid HZ.out.1
  have X0 := Lib.hid HZ.out.2.1
  have X1 := Lib.hid HZ.out.2.2.1
  have X2 := Lib.hid HZ.out.2.2.2
  clear HZ
  have x0 := X0.out.out
  have x1 := X1.out.out
  go_wp2_with fail
  clear x0 x1
  (with_reducible refine (HV.out.run HB0.out).mono ?_)
  rintro e w1 ⟨rfl, hB⟩
  replace X0 := Lib.hid (X0.out.keep hB)
  replace X1 := Lib.hid (X1.out.keep hB)
  replace X2 := Lib.hid (X2.out.keep hB)
  replace HB0 := Lib.hid (HB0.out.trans (hB.mono HB0.out.size))
  clear hB
  have x0 := X0.out.out
  have x1 := X1.out.out
  go_wp2_with fail
  clear x0 x1
  (with_reducible refine (HS.out.run HB0.out).mono ?_)
  rintro e w2 ⟨rfl, hB⟩
  replace X0 := Lib.hid (X0.out.keep hB)
  replace X1 := Lib.hid (X1.out.keep hB)
  replace X2 := Lib.hid (X2.out.keep hB)
  replace HB0 := Lib.hid (HB0.out.trans (hB.mono HB0.out.size))
  clear hB
  have r0 := X2.out.out
  have f0 := X2.out.frz
  have hl := X2.out.lt
  have HP := Lib.hid (X2.out.put (.slice none 0 0))
  have HQ := Lib.hid (HB0.out.setCell (p := ⟨w.heap.size + 2, 0, none⟩) (Nat.le_add_right _ _) (.slice none 0 0))
  have x0 := X0.out.out
  have x1 := X1.out.out
  generalize w.heap.size + 2 = gr at *
  go_wp2_with fail
  generalize World.setCell _ _ _ = V at *
  have c0 := HP.out.out
  exact bodyPost_ret (v := .tuple #[.agg #[.slice none 0 0], .int .i64 1]) (by simp [results, Tryz.results30, go_sem, c0]) rfl ⟨rfl, HQ.out⟩
theorem mgol_no (A D : Option Addr) (n c k q : Nat) (b1 b2 : Bool) (w : World) (HV : CV 20 #[.agg #[.slice A n c]] (.bool b1) w) (HS : CV 51 #[.agg #[.slice A n c], .slice D k q] (.bool b2) w) (hb : (b1 && b2) = false) :
    Calls Tryz.prog 30 #[.agg #[.slice A n c], .slice D k q] w fun e w' => e = .returned (.tuple #[.agg #[.slice none 0 0], .int .i64 1]) ∧ Below w.heap.size w w' := by
  cases b1 with
  | false => exact mgol_no0 A D n c k q w HV
  | true =>
    cases b2 with
    | false => exact mgol_no1 A D n c k q w HV HS
    | true => cases hb
theorem mgol_ok (A D : Option Addr) (n c k q : Nat) (st : Nat → StV) (f : Nat → Int) (w : World) (hM : moB n st = true) (hk : k ≤ 60) (hs : ∀ i j, i ≤ j → j < k → f i ≤ f j) (hA : Lst w A n st) (hD : Lin w D k f) (HV : Hid (CV 20 #[.agg #[.slice A n c]] (.bool true) w)) (HS : Hid (CV 51 #[.agg #[.slice A n c], .slice D k q] (.bool true) w)) :
    Calls Tryz.prog 30 #[.agg #[.slice A n c], .slice D k q] w (RetMd n (golT st f k) 0 w) := by
  obtain ⟨a1, a2, a3⟩ := mo_small hM
  have HA := Lib.hid hA
  have HDD := Lib.hid hD
  have HK := Lib.hid hk
  have HSO := Lib.hid hs
  have HN1 : Hid (n ≤ 1000) := Lib.hid (by omega)
  have HN2 : Hid (∀ i, i < n → (golT st f k i).n ≤ 1000) := Lib.hid (fun i hi => by
    have := a2 i hi
    unfold golT
    split
    · show 1 ≤ 1000; omega
    · omega)
  have HN3 : Hid (∀ i j, i < n → j < (golT st f k i).n → ((golT st f k i).ch j).n ≤ 1000) := Lib.hid (fun i j hi hj => by
    unfold golT at hj ⊢
    split at hj
    · rename_i e
      rw [if_pos e]
      show 1 ≤ 1000
      omega
    · rename_i e
      rw [if_neg e]
      have := a3 i j hi hj
      omega)
  clear hM hA hD hk hs a1 a2 a3
  go_enter Tryz.func30, Tryz.ntmps30
  go_upto_region 1 with fail
  generalize hZ : World.alloc _ _ = Z
  have HZ : Hid (Below w.heap.size w Z ∧ B1 Z (w.heap.size) 24 (.slice A n c) ∧ B1 Z (w.heap.size + 1) 25 (.slice D k q) ∧ B1 Z (w.heap.size + 2) 24 (.slice none 0 0)) := Lib.hid (alloc_3 hZ)
  clear hZ
  have HB0 := Lib.hid HZ.out.1
  have X0 := Lib.hid HZ.out.2.1
  have X1 := Lib.hid HZ.out.2.2.1
  have X2 := Lib.hid HZ.out.2.2.2
  clear HZ
  have x0 := X0.out.out
  have x1 := X1.out.out
  go_wp2_with fail
  clear x0 x1
  (with_reducible refine (HV.out.run HB0.out).mono ?_)
  rintro e w1 ⟨rfl, hB⟩
  replace X0 := Lib.hid (X0.out.keep hB)
  replace X1 := Lib.hid (X1.out.keep hB)
  replace X2 := Lib.hid (X2.out.keep hB)
  replace HB0 := Lib.hid (HB0.out.trans (hB.mono HB0.out.size))
  clear hB
  have x0 := X0.out.out
  have x1 := X1.out.out
  go_wp2_with fail
  clear x0 x1
  (with_reducible refine (HS.out.run HB0.out).mono ?_)
  rintro e w2 ⟨rfl, hB⟩
  replace X0 := Lib.hid (X0.out.keep hB)
  replace X1 := Lib.hid (X1.out.keep hB)
  replace X2 := Lib.hid (X2.out.keep hB)
  replace HB0 := Lib.hid (HB0.out.trans (hB.mono HB0.out.size))
  clear hB
  have x0 := X0.out.out
  have x1 := X1.out.out
  go_wp2_with fail
  clear x0 x1
  (with_reducible refine (chg_gol _ _ n (golT st f k) _ HN1.out HN2.out HN3.out ?hcl).mono ?_)
  case hcl => exact Lib.hid fun ix hi wx hx => gol1_any _ _ D A k q n c st f ix wx (Lib.hid (X1.out.keep hx).mbx) (Lib.hid (X0.out.keep hx).mbx) (HA.out.keep (HB0.out.trans (hx.mono HB0.out.size))) (HDD.out.keep (HB0.out.trans (hx.mono HB0.out.size))) HK.out HSO.out hi
  rintro e w3 ⟨A5, c5, st5, rfl, hL, hl, hB⟩
  have hlo := X2.out.lt
  have HLL := Lib.hid hl
  have HPM := Lib.hid (putM (c := c5) (HB0.out.trans (hB.mono HB0.out.size)) (show w.heap.size ≤ w.heap.size + 2 by omega) hlo (X2.out.keep hB) hL)
  have hr := X2.out.keep hB
  have r0 := hr.out
  have f0 := hr.frz
  have hrl := hr.lt
  clear hr hL hl hB hlo X0 X1 X2
  generalize w.heap.size + 2 = gr at *
  go_wp2_with fail
  generalize World.setCell _ _ _ = V at *
  have c0 := HPM.out.1.out
  exact bodyPost_ret (v := .tuple #[.agg #[.slice A5 n c5], .int .i64 0]) (by simp [results, Tryz.results30, go_sem, c0]) rfl ⟨_, _, st5, rfl, HPM.out.2.1, HLL.out, HPM.out.2.2⟩
end Go.Proofs.YtokbejkkpekpnaaGreatDoor
