/- The reference's Fix, FixFor and Goal. -/
import Derived.Test.YtokbejkkpekpnaaGreatDoorF46

set_option maxRecDepth 100000
set_option maxHeartbeats 40000000
namespace Go.Proofs.YtokbejkkpekpnaaGreatDoor
open Go.RowKit
theorem alloc_2 {w Z : World} {T T' : Nat} {a b : Value} (h : (w.alloc (.cells #[a] T)).alloc (.cells #[b] T') = Z) : Below w.heap.size w Z ∧ B1 Z w.heap.size T a ∧ B1 Z (w.heap.size + 1) T' b := by
  have e1 : (w.alloc (.cells #[a] T)).heap.size = w.heap.size + 1 := by simp
  have h2 := B1.new (w.alloc (.cells #[a] T)) T' b
  rw [e1, h] at h2
  have h1 := (B1.new w T a).keep (below_alloc _ (.cells #[b] T'))
  rw [h] at h1
  have hb := (below_alloc w (.cells #[a] T)).trans ((below_alloc _ (.cells #[b] T')).mono (below_alloc _ _).size)
  rw [h] at hb
  exact ⟨hb, h1, h2⟩
theorem putL {w wx : World} {A : Option Addr} {n c g hi : Nat} {st : Nat → StV} {v : Value} (hB : Below w.heap.size w wx) (hg : w.heap.size ≤ g) (hlo : g < hi) (hb : B1 wx g 24 v) (hL : LstP (fun b => b < w.heap.size ∨ hi ≤ b) wx A n st) :
    B1 (wx.setCell ⟨g, 0, none⟩ (.slice A n c)) g 24 (.slice A n c) ∧ Lst (wx.setCell ⟨g, 0, none⟩ (.slice A n c)) A n st ∧ Below w.heap.size w (wx.setCell ⟨g, 0, none⟩ (.slice A n c)) :=
  ⟨hb.put _, (hL.stay (w' := wx.setCell ⟨g, 0, none⟩ (.slice A n c)) (by simp [World.setCell]) fun b _ hp => Below.heap_setCell _ ⟨g, 0, none⟩ _ b (by have hp' : b < w.heap.size ∨ hi ≤ b := hp; show b ≠ g; omega)).to, hB.setCell (p := ⟨g, 0, none⟩) hg _⟩
theorem fxS_like {s s' : StV} {k : Nat} (H : StL s s') (hk : k < s'.n) : StL (fxS s k) (fxS s' k) := ⟨H.1, H.2.1, rfl, fun _ _ => H.2.2.2 k hk⟩
theorem LstP.old {w : World} {A : Option Addr} {n : Nat} {st : Nat → StV} (h : Lst w A n st) : LstP (fun b => b < w.heap.size) w A n st := ⟨Rows3P.of h.1 fun _ hb => hb, fun i hi => StP.of (h.2 i hi) fun _ hb => hb⟩
theorem rfix_no0 (A B : Option Addr) (n c m d : Nat) (w : World) (HV : Hid (CV 21 #[.agg #[.slice A n c]] (.bool false) w)) :
    Calls Tryz.prog 24 #[.agg #[.slice A n c], .slice B m d] w fun e w' => e = .returned (.tuple #[.agg #[.slice none 0 0], .int .i64 1]) ∧ Below w.heap.size w w' := by
  go_enter Tryz.func24, Tryz.ntmps24
  go_upto_region 1 with fail
  generalize hZ : World.alloc _ _ = Z
  have HZ : Hid (Below w.heap.size w Z ∧ B1 Z (w.heap.size) 24 (.slice A n c) ∧ B1 Z (w.heap.size + 1) 24 (.slice none 0 0)) := Lib.hid (alloc_2 hZ)
  clear hZ
  have HB0 := Lib.hid HZ.out.1
  have X0 := Lib.hid HZ.out.2.1
  have X1 := Lib.hid HZ.out.2.2
  clear HZ
  have x0 := X0.out.out
  go_wp2_with fail
  clear x0
  (with_reducible refine (HV.out.run HB0.out).mono ?_)
  rintro e w1 ⟨rfl, hB⟩
  replace X0 := Lib.hid (X0.out.keep hB)
  replace X1 := Lib.hid (X1.out.keep hB)
  replace HB0 := Lib.hid (HB0.out.trans (hB.mono HB0.out.size))
  clear hB
  have r0 := X1.out.out
  have f0 := X1.out.frz
  have hl := X1.out.lt
  have HP := Lib.hid (X1.out.put (.slice none 0 0))
  have HQ := Lib.hid (HB0.out.setCell (p := ⟨w.heap.size + 1, 0, none⟩) (Nat.le_add_right _ _) (.slice none 0 0))
  have x0 := X0.out.out
  generalize w.heap.size + 1 = gr at *
  go_wp2_with fail
  generalize World.setCell _ _ _ = V at *
  have c0 := HP.out.out
  exact bodyPost_ret (v := .tuple #[.agg #[.slice none 0 0], .int .i64 1]) (by simp [results, Tryz.results24, go_sem, c0]) rfl ⟨rfl, HQ.out⟩
theorem rfix_no1 (A B : Option Addr) (n c m d : Nat) (w : World) (HV : Hid (CV 21 #[.agg #[.slice A n c]] (.bool true) w)) (HS : Hid (CV 48 #[.agg #[.slice A n c], .slice B m d] (.bool false) w)) :
    Calls Tryz.prog 24 #[.agg #[.slice A n c], .slice B m d] w fun e w' => e = .returned (.tuple #[.agg #[.slice none 0 0], .int .i64 1]) ∧ Below w.heap.size w w' := by
  go_enter Tryz.func24, Tryz.ntmps24
  go_upto_region 1 with fail
  generalize hZ : World.alloc _ _ = Z
  have HZ : Hid (Below w.heap.size w Z ∧ B1 Z (w.heap.size) 24 (.slice A n c) ∧ B1 Z (w.heap.size + 1) 24 (.slice none 0 0)) := Lib.hid (alloc_2 hZ)
  clear hZ
  have HB0 := Lib.hid HZ.out.1
  have X0 := Lib.hid HZ.out.2.1
  have X1 := Lib.hid HZ.out.2.2
  clear HZ
  have x0 := X0.out.out
  go_wp2_with fail
  clear x0
  (with_reducible refine (HV.out.run HB0.out).mono ?_)
  rintro e w1 ⟨rfl, hB⟩
  replace X0 := Lib.hid (X0.out.keep hB)
  replace X1 := Lib.hid (X1.out.keep hB)
  replace HB0 := Lib.hid (HB0.out.trans (hB.mono HB0.out.size))
  clear hB
  have x0 := X0.out.out
  go_wp2_with fail
  clear x0
  (with_reducible refine (HS.out.run HB0.out).mono ?_)
  rintro e w2 ⟨rfl, hB⟩
  replace X0 := Lib.hid (X0.out.keep hB)
  replace X1 := Lib.hid (X1.out.keep hB)
  replace HB0 := Lib.hid (HB0.out.trans (hB.mono HB0.out.size))
  clear hB
  have r0 := X1.out.out
  have f0 := X1.out.frz
  have hl := X1.out.lt
  have HP := Lib.hid (X1.out.put (.slice none 0 0))
  have HQ := Lib.hid (HB0.out.setCell (p := ⟨w.heap.size + 1, 0, none⟩) (Nat.le_add_right _ _) (.slice none 0 0))
  have x0 := X0.out.out
  generalize w.heap.size + 1 = gr at *
  go_wp2_with fail
  generalize World.setCell _ _ _ = V at *
  have c0 := HP.out.out
  exact bodyPost_ret (v := .tuple #[.agg #[.slice none 0 0], .int .i64 1]) (by simp [results, Tryz.results24, go_sem, c0]) rfl ⟨rfl, HQ.out⟩
theorem rfix_no (A B : Option Addr) (n c m d : Nat) (b1 b2 : Bool) (w : World) (HV : CV 21 #[.agg #[.slice A n c]] (.bool b1) w) (HS : CV 48 #[.agg #[.slice A n c], .slice B m d] (.bool b2) w) (hb : (b1 && b2) = false) :
    Calls Tryz.prog 24 #[.agg #[.slice A n c], .slice B m d] w fun e w' => e = .returned (.tuple #[.agg #[.slice none 0 0], .int .i64 1]) ∧ Below w.heap.size w w' := by
  cases b1 with
  | false => exact rfix_no0 A B n c m d w HV
  | true =>
    cases b2 with
    | false => exact rfix_no1 A B n c m d w HV HS
    | true => cases hb
theorem rfor_no0 (A B : Option Addr) (n c m d : Nat) (pl : Int) (w : World) (HV : Hid (CV 21 #[.agg #[.slice A n c]] (.bool false) w)) :
    Calls Tryz.prog 26 #[.agg #[.slice A n c], .slice B m d, .int .i64 pl] w fun e w' => e = .returned (.tuple #[.agg #[.slice none 0 0], .int .i64 1]) ∧ Below w.heap.size w w' := by
  go_enter Tryz.func26, Tryz.ntmps26
  go_upto_region 1 with fail
  generalize hZ : World.alloc _ _ = Z
  have HZ : Hid (Below w.heap.size w Z ∧ B1 Z (w.heap.size) 24 (.slice A n c) ∧ B1 Z (w.heap.size + 1) 24 (.slice none 0 0)) := Lib.hid (alloc_2 hZ)
  clear hZ
  have HB0 := Lib.hid HZ.out.1
  have X0 := Lib.hid HZ.out.2.1
  have X1 := Lib.hid HZ.out.2.2
  clear HZ
  have x0 := X0.out.out
  go_wp2_with fail
  clear x0
  (with_reducible refine (HV.out.run HB0.out).mono ?_)
  rintro e w1 ⟨rfl, hB⟩
  replace X0 := Lib.hid (X0.out.keep hB)
  replace X1 := Lib.hid (X1.out.keep hB)
  replace HB0 := Lib.hid (HB0.out.trans (hB.mono HB0.out.size))
  clear hB
  have r0 := X1.out.out
  have f0 := X1.out.frz
  have hl := X1.out.lt
  have HP := Lib.hid (X1.out.put (.slice none 0 0))
  have HQ := Lib.hid (HB0.out.setCell (p := ⟨w.heap.size + 1, 0, none⟩) (Nat.le_add_right _ _) (.slice none 0 0))
  have x0 := X0.out.out
  generalize w.heap.size + 1 = gr at *
  go_wp2_with fail
  generalize World.setCell _ _ _ = V at *
  have c0 := HP.out.out
  exact bodyPost_ret (v := .tuple #[.agg #[.slice none 0 0], .int .i64 1]) (by simp [results, Tryz.results26, go_sem, c0]) rfl ⟨rfl, HQ.out⟩
theorem rfor_no1 (A B : Option Addr) (n c m d : Nat) (pl : Int) (w : World) (HV : Hid (CV 21 #[.agg #[.slice A n c]] (.bool true) w)) (HS : Hid (CV 48 #[.agg #[.slice A n c], .slice B m d] (.bool false) w)) :
    Calls Tryz.prog 26 #[.agg #[.slice A n c], .slice B m d, .int .i64 pl] w fun e w' => e = .returned (.tuple #[.agg #[.slice none 0 0], .int .i64 1]) ∧ Below w.heap.size w w' := by
  go_enter Tryz.func26, Tryz.ntmps26
  go_upto_region 1 with fail
  generalize hZ : World.alloc _ _ = Z
  have HZ : Hid (Below w.heap.size w Z ∧ B1 Z (w.heap.size) 24 (.slice A n c) ∧ B1 Z (w.heap.size + 1) 24 (.slice none 0 0)) := Lib.hid (alloc_2 hZ)
  clear hZ
  have HB0 := Lib.hid HZ.out.1
  have X0 := Lib.hid HZ.out.2.1
  have X1 := Lib.hid HZ.out.2.2
  clear HZ
  have x0 := X0.out.out
  go_wp2_with fail
  clear x0
  (with_reducible refine (HV.out.run HB0.out).mono ?_)
  rintro e w1 ⟨rfl, hB⟩
  replace X0 := Lib.hid (X0.out.keep hB)
  replace X1 := Lib.hid (X1.out.keep hB)
  replace HB0 := Lib.hid (HB0.out.trans (hB.mono HB0.out.size))
  clear hB
  have x0 := X0.out.out
  go_wp2_with fail
  clear x0
  (with_reducible refine (HS.out.run HB0.out).mono ?_)
  rintro e w2 ⟨rfl, hB⟩
  replace X0 := Lib.hid (X0.out.keep hB)
  replace X1 := Lib.hid (X1.out.keep hB)
  replace HB0 := Lib.hid (HB0.out.trans (hB.mono HB0.out.size))
  clear hB
  have r0 := X1.out.out
  have f0 := X1.out.frz
  have hl := X1.out.lt
  have HP := Lib.hid (X1.out.put (.slice none 0 0))
  have HQ := Lib.hid (HB0.out.setCell (p := ⟨w.heap.size + 1, 0, none⟩) (Nat.le_add_right _ _) (.slice none 0 0))
  have x0 := X0.out.out
  generalize w.heap.size + 1 = gr at *
  go_wp2_with fail
  generalize World.setCell _ _ _ = V at *
  have c0 := HP.out.out
  exact bodyPost_ret (v := .tuple #[.agg #[.slice none 0 0], .int .i64 1]) (by simp [results, Tryz.results26, go_sem, c0]) rfl ⟨rfl, HQ.out⟩
theorem rfor_no (A B : Option Addr) (n c m d : Nat) (pl : Int) (b1 b2 : Bool) (w : World) (HV : CV 21 #[.agg #[.slice A n c]] (.bool b1) w) (HS : CV 48 #[.agg #[.slice A n c], .slice B m d] (.bool b2) w) (hb : (b1 && b2) = false) :
    Calls Tryz.prog 26 #[.agg #[.slice A n c], .slice B m d, .int .i64 pl] w fun e w' => e = .returned (.tuple #[.agg #[.slice none 0 0], .int .i64 1]) ∧ Below w.heap.size w w' := by
  cases b1 with
  | false => exact rfor_no0 A B n c m d pl w HV
  | true =>
    cases b2 with
    | false => exact rfor_no1 A B n c m d pl w HV HS
    | true => cases hb
theorem rgol_no0 (A D : Option Addr) (n c k q : Nat) (w : World) (HV : Hid (CV 21 #[.agg #[.slice A n c]] (.bool false) w)) :
    Calls Tryz.prog 27 #[.agg #[.slice A n c], .slice D k q] w fun e w' => e = .returned (.tuple #[.agg #[.slice none 0 0], .int .i64 1]) ∧ Below w.heap.size w w' := by
  go_enter Tryz.func27, Tryz.ntmps27
  go_upto_region 1 with fail
  generalize hZ : World.alloc _ _ = Z
  have HZ : Hid (Below w.heap.size w Z ∧ B1 Z (w.heap.size) 24 (.slice A n c) ∧ B1 Z (w.heap.size + 1) 24 (.slice none 0 0)) := Lib.hid (alloc_2 hZ)
  clear hZ
  have HB0 := Lib.hid HZ.out.1
  have X0 := Lib.hid HZ.out.2.1
  have X1 := Lib.hid HZ.out.2.2
  clear HZ
  have x0 := X0.out.out
  go_wp2_with fail
  clear x0
  (with_reducible refine (HV.out.run HB0.out).mono ?_)
  rintro e w1 ⟨rfl, hB⟩
  replace X0 := Lib.hid (X0.out.keep hB)
  replace X1 := Lib.hid (X1.out.keep hB)
  replace HB0 := Lib.hid (HB0.out.trans (hB.mono HB0.out.size))
  clear hB
  have r0 := X1.out.out
  have f0 := X1.out.frz
  have hl := X1.out.lt
  have HP := Lib.hid (X1.out.put (.slice none 0 0))
  have HQ := Lib.hid (HB0.out.setCell (p := ⟨w.heap.size + 1, 0, none⟩) (Nat.le_add_right _ _) (.slice none 0 0))
  have x0 := X0.out.out
  generalize w.heap.size + 1 = gr at *
  go_wp2_with fail
  generalize World.setCell _ _ _ = V at *
  have c0 := HP.out.out
  exact bodyPost_ret (v := .tuple #[.agg #[.slice none 0 0], .int .i64 1]) (by simp [results, Tryz.results27, go_sem, c0]) rfl ⟨rfl, HQ.out⟩
theorem rgol_no1 (A D : Option Addr) (n c k q : Nat) (w : World) (HV : Hid (CV 21 #[.agg #[.slice A n c]] (.bool true) w)) (HS : Hid (CV 47 #[.agg #[.slice A n c], .slice D k q] (.bool false) w)) :
    Calls Tryz.prog 27 #[.agg #[.slice A n c], .slice D k q] w fun e w' => e = .returned (.tuple #[.agg #[.slice none 0 0], .int .i64 1]) ∧ Below w.heap.size w w' := by
  go_enter Tryz.func27, Tryz.ntmps27
  go_upto_region 1 with fail
  generalize hZ : World.alloc _ _ = Z
  have HZ : Hid (Below w.heap.size w Z ∧ B1 Z (w.heap.size) 24 (.slice A n c) ∧ B1 Z (w.heap.size + 1) 24 (.slice none 0 0)) := Lib.hid (alloc_2 hZ)
  clear hZ
  have HB0 := Lib.hid HZ.out.1
  have X0 := Lib.hid HZ.out.2.1
  have X1 := Lib.hid HZ.out.2.2
  clear HZ
  have x0 := X0.out.out
  go_wp2_with fail
  clear x0
  (with_reducible refine (HV.out.run HB0.out).mono ?_)
  rintro e w1 ⟨rfl, hB⟩
  replace X0 := Lib.hid (X0.out.keep hB)
  replace X1 := Lib.hid (X1.out.keep hB)
  replace HB0 := Lib.hid (HB0.out.trans (hB.mono HB0.out.size))
  clear hB
  have x0 := X0.out.out
  go_wp2_with fail
  clear x0
  (with_reducible refine (HS.out.run HB0.out).mono ?_)
  rintro e w2 ⟨rfl, hB⟩
  replace X0 := Lib.hid (X0.out.keep hB)
  replace X1 := Lib.hid (X1.out.keep hB)
  replace HB0 := Lib.hid (HB0.out.trans (hB.mono HB0.out.size))
  clear hB
  have r0 := X1.out.out
  have f0 := X1.out.frz
  have hl := X1.out.lt
  have HP := Lib.hid (X1.out.put (.slice none 0 0))
  have HQ := Lib.hid (HB0.out.setCell (p := ⟨w.heap.size + 1, 0, none⟩) (Nat.le_add_right _ _) (.slice none 0 0))
  have x0 := X0.out.out
  generalize w.heap.size + 1 = gr at *
  go_wp2_with fail
  generalize World.setCell _ _ _ = V at *
  have c0 := HP.out.out
  exact bodyPost_ret (v := .tuple #[.agg #[.slice none 0 0], .int .i64 1]) (by simp [results, Tryz.results27, go_sem, c0]) rfl ⟨rfl, HQ.out⟩
theorem rgol_no (A D : Option Addr) (n c k q : Nat) (b1 b2 : Bool) (w : World) (HV : CV 21 #[.agg #[.slice A n c]] (.bool b1) w) (HS : CV 47 #[.agg #[.slice A n c], .slice D k q] (.bool b2) w) (hb : (b1 && b2) = false) :
    Calls Tryz.prog 27 #[.agg #[.slice A n c], .slice D k q] w fun e w' => e = .returned (.tuple #[.agg #[.slice none 0 0], .int .i64 1]) ∧ Below w.heap.size w w' := by
  cases b1 with
  | false => exact rgol_no0 A D n c k q w HV
  | true =>
    cases b2 with
    | false => exact rgol_no1 A D n c k q w HV HS
    | true => cases hb
theorem rfix_ok (A B : Option Addr) (n c d : Nat) (st st2 : Nat → StV) (f : Nat → Int) (w : World) (hn : n ≤ 60) (hz : ∀ i, i < n → (st i).n ≤ 1000) (hf : ∀ i, i < n → 0 ≤ f i ∧ (f i).toNat < (st i).n) (hl : ∀ i, i < n → StL (st2 i) (st i) ∧ (st2 i).n ≤ (st2 i).c) (hL : Lst w A n st2) (hB : Lin w B n f) (HV : Hid (CV 21 #[.agg #[.slice A n c]] (.bool true) w)) (HS : Hid (CV 48 #[.agg #[.slice A n c], .slice B n d] (.bool true) w)) :
    Calls Tryz.prog 24 #[.agg #[.slice A n c], .slice B n d] w (RetMd n (fixT st f) 0 w) := by
  have HN := Lib.hid hn
  have HA : Hid (∀ wx, Below w.heap.size w wx → LstP (fun b => b < w.heap.size) wx A n st2) := Lib.hid fun wx hx => (LstP.old hL).stay hx.size fun b hlt _ => hx.block b hlt
  have HBL := Lib.hid hB
  have HF : Hid (∀ i, i < n → 0 ≤ f i ∧ (f i).toNat < (st2 i).n ∧ (st2 i).n ≤ 1000) := Lib.hid fun i hi => by
    have h1 := hf i hi
    have h2 := (hl i hi).1.2.2.1
    have h3 := hz i hi
    omega
  have HC : Hid (∀ i, i < n → (st2 i).n ≤ (st2 i).c) := Lib.hid fun i hi => (hl i hi).2
  have H1 : Hid (∀ i, i < n → ((-1 : Int) < 0 ∨ (st2 i).ow = (-1 : Int)) → StL (fxS (st2 i) (f i).toNat) (fixT st f i)) := Lib.hid fun i hi h => by
    exact fxS_like (hl i hi).1 (hf i hi).2
  have H2 : Hid (∀ i, i < n → ¬ ((-1 : Int) < 0 ∨ (st2 i).ow = (-1 : Int)) → StL (st2 i) (fixT st f i)) := Lib.hid fun i hi h => by
    exact absurd (Or.inl (by decide)) h
  clear hn hz hf hl hL hB
  go_enter Tryz.func24, Tryz.ntmps24
  go_upto_region 1 with fail
  generalize hZ : World.alloc _ _ = Z
  have HZ : Hid (Below w.heap.size w Z ∧ B1 Z (w.heap.size) 24 (.slice A n c) ∧ B1 Z (w.heap.size + 1) 24 (.slice none 0 0)) := Lib.hid (alloc_2 hZ)
  clear hZ
  have HB0 := Lib.hid HZ.out.1
  have X0 := Lib.hid HZ.out.2.1
  have X1 := Lib.hid HZ.out.2.2
  clear HZ
  have x0 := X0.out.out
  go_wp2_with fail
  clear x0
  (with_reducible refine (HV.out.run HB0.out).mono ?_)
  rintro e w1 ⟨rfl, hB⟩
  replace X0 := Lib.hid (X0.out.keep hB)
  replace X1 := Lib.hid (X1.out.keep hB)
  replace HB0 := Lib.hid (HB0.out.trans (hB.mono HB0.out.size))
  clear hB
  have x0 := X0.out.out
  go_wp2_with fail
  clear x0
  (with_reducible refine (HS.out.run HB0.out).mono ?_)
  rintro e w2 ⟨rfl, hB⟩
  replace X0 := Lib.hid (X0.out.keep hB)
  replace X1 := Lib.hid (X1.out.keep hB)
  replace HB0 := Lib.hid (HB0.out.trans (hB.mono HB0.out.size))
  clear hB
  have x0 := X0.out.out
  go_wp2_with fail
  clear x0
  (with_reducible refine (rfixed_any A B n c n d w.heap.size st2 (fixT st f) f (-1) _ HN.out HB0.out.size (HA.out _ HB0.out) (HBL.out.keep HB0.out) (Nat.le_refl _) HF.out HC.out H1.out H2.out).mono ?_)
  rintro e w3 ⟨A5, c5, st5, rfl, hL, hl, hB⟩
  have hlo := X1.out.lt
  have HLL := Lib.hid hl
  have HPM := Lib.hid (putL (c := c5) (HB0.out.trans (hB.mono HB0.out.size)) (show w.heap.size ≤ w.heap.size + 1 by omega) hlo (X1.out.keep hB) hL)
  have hr := X1.out.keep hB
  have r0 := hr.out
  have f0 := hr.frz
  have hrl := hr.lt
  clear hr hL hl hB hlo X0 X1
  generalize w.heap.size + 1 = gr at *
  go_wp2_with fail
  generalize World.setCell _ _ _ = V at *
  have c0 := HPM.out.1.out
  exact bodyPost_ret (v := .tuple #[.agg #[.slice A5 n c5], .int .i64 0]) (by simp [results, Tryz.results24, go_sem, c0]) rfl ⟨_, _, st5, rfl, HPM.out.2.1, HLL.out, HPM.out.2.2⟩
theorem rfor_ok0 (A B : Option Addr) (n c d : Nat) (st st2 : Nat → StV) (f : Nat → Int) (w : World) (hn : n ≤ 60) (hz : ∀ i, i < n → (st i).n ≤ 1000) (hf : ∀ i, i < n → 0 ≤ f i ∧ (f i).toNat < (st i).n) (hl : ∀ i, i < n → StL (st2 i) (st i) ∧ (st2 i).n ≤ (st2 i).c) (hL : Lst w A n st2) (hB : Lin w B n f) (HV : Hid (CV 21 #[.agg #[.slice A n c]] (.bool true) w)) (HS : Hid (CV 48 #[.agg #[.slice A n c], .slice B n d] (.bool true) w)) :
    Calls Tryz.prog 26 #[.agg #[.slice A n c], .slice B n d, .int .i64 0] w (RetMd n (forT st f 0) 0 w) := by
  have HN := Lib.hid hn
  have HA : Hid (∀ wx, Below w.heap.size w wx → LstP (fun b => b < w.heap.size) wx A n st2) := Lib.hid fun wx hx => (LstP.old hL).stay hx.size fun b hlt _ => hx.block b hlt
  have HBL := Lib.hid hB
  have HF : Hid (∀ i, i < n → 0 ≤ f i ∧ (f i).toNat < (st2 i).n ∧ (st2 i).n ≤ 1000) := Lib.hid fun i hi => by
    have h1 := hf i hi
    have h2 := (hl i hi).1.2.2.1
    have h3 := hz i hi
    omega
  have HC : Hid (∀ i, i < n → (st2 i).n ≤ (st2 i).c) := Lib.hid fun i hi => (hl i hi).2
  have H1 : Hid (∀ i, i < n → ((0 : Int) < 0 ∨ (st2 i).ow = (0 : Int)) → StL (fxS (st2 i) (f i).toNat) (forT st f 0 i)) := Lib.hid fun i hi h => by
    have h1 : (st i).ow = 0 := by have h2 := (hl i hi).1.1; rcases h with h | h <;> omega
    unfold forT
    rw [if_pos h1]
    exact fxS_like (hl i hi).1 (hf i hi).2
  have H2 : Hid (∀ i, i < n → ¬ ((0 : Int) < 0 ∨ (st2 i).ow = (0 : Int)) → StL (st2 i) (forT st f 0 i)) := Lib.hid fun i hi h => by
    have h1 : ¬ (st i).ow = 0 := by have h2 := (hl i hi).1.1; intro h3; exact h (.inr (by omega))
    unfold forT
    rw [if_neg h1]
    exact (hl i hi).1
  clear hn hz hf hl hL hB
  go_enter Tryz.func26, Tryz.ntmps26
  go_upto_region 1 with fail
  generalize hZ : World.alloc _ _ = Z
  have HZ : Hid (Below w.heap.size w Z ∧ B1 Z (w.heap.size) 24 (.slice A n c) ∧ B1 Z (w.heap.size + 1) 24 (.slice none 0 0)) := Lib.hid (alloc_2 hZ)
  clear hZ
  have HB0 := Lib.hid HZ.out.1
  have X0 := Lib.hid HZ.out.2.1
  have X1 := Lib.hid HZ.out.2.2
  clear HZ
  have x0 := X0.out.out
  go_wp2_with fail
  clear x0
  (with_reducible refine (HV.out.run HB0.out).mono ?_)
  rintro e w1 ⟨rfl, hB⟩
  replace X0 := Lib.hid (X0.out.keep hB)
  replace X1 := Lib.hid (X1.out.keep hB)
  replace HB0 := Lib.hid (HB0.out.trans (hB.mono HB0.out.size))
  clear hB
  have x0 := X0.out.out
  go_wp2_with fail
  clear x0
  (with_reducible refine (HS.out.run HB0.out).mono ?_)
  rintro e w2 ⟨rfl, hB⟩
  replace X0 := Lib.hid (X0.out.keep hB)
  replace X1 := Lib.hid (X1.out.keep hB)
  replace HB0 := Lib.hid (HB0.out.trans (hB.mono HB0.out.size))
  clear hB
  have x0 := X0.out.out
  go_wp2_with fail
  clear x0
  (with_reducible refine (rfixed_any A B n c n d w.heap.size st2 (forT st f 0) f 0 _ HN.out HB0.out.size (HA.out _ HB0.out) (HBL.out.keep HB0.out) (Nat.le_refl _) HF.out HC.out H1.out H2.out).mono ?_)
  rintro e w3 ⟨A5, c5, st5, rfl, hL, hl, hB⟩
  have hlo := X1.out.lt
  have HLL := Lib.hid hl
  have HPM := Lib.hid (putL (c := c5) (HB0.out.trans (hB.mono HB0.out.size)) (show w.heap.size ≤ w.heap.size + 1 by omega) hlo (X1.out.keep hB) hL)
  have hr := X1.out.keep hB
  have r0 := hr.out
  have f0 := hr.frz
  have hrl := hr.lt
  clear hr hL hl hB hlo X0 X1
  generalize w.heap.size + 1 = gr at *
  go_wp2_with fail
  generalize World.setCell _ _ _ = V at *
  have c0 := HPM.out.1.out
  exact bodyPost_ret (v := .tuple #[.agg #[.slice A5 n c5], .int .i64 0]) (by simp [results, Tryz.results26, go_sem, c0]) rfl ⟨_, _, st5, rfl, HPM.out.2.1, HLL.out, HPM.out.2.2⟩
theorem rfor_ok1 (A B : Option Addr) (n c d : Nat) (st st2 : Nat → StV) (f : Nat → Int) (w : World) (hn : n ≤ 60) (hz : ∀ i, i < n → (st i).n ≤ 1000) (hf : ∀ i, i < n → 0 ≤ f i ∧ (f i).toNat < (st i).n) (hl : ∀ i, i < n → StL (st2 i) (st i) ∧ (st2 i).n ≤ (st2 i).c) (hL : Lst w A n st2) (hB : Lin w B n f) (HV : Hid (CV 21 #[.agg #[.slice A n c]] (.bool true) w)) (HS : Hid (CV 48 #[.agg #[.slice A n c], .slice B n d] (.bool true) w)) :
    Calls Tryz.prog 26 #[.agg #[.slice A n c], .slice B n d, .int .i64 1] w (RetMd n (forT st f 1) 0 w) := by
  have HN := Lib.hid hn
  have HA : Hid (∀ wx, Below w.heap.size w wx → LstP (fun b => b < w.heap.size) wx A n st2) := Lib.hid fun wx hx => (LstP.old hL).stay hx.size fun b hlt _ => hx.block b hlt
  have HBL := Lib.hid hB
  have HF : Hid (∀ i, i < n → 0 ≤ f i ∧ (f i).toNat < (st2 i).n ∧ (st2 i).n ≤ 1000) := Lib.hid fun i hi => by
    have h1 := hf i hi
    have h2 := (hl i hi).1.2.2.1
    have h3 := hz i hi
    omega
  have HC : Hid (∀ i, i < n → (st2 i).n ≤ (st2 i).c) := Lib.hid fun i hi => (hl i hi).2
  have H1 : Hid (∀ i, i < n → ((1 : Int) < 0 ∨ (st2 i).ow = (1 : Int)) → StL (fxS (st2 i) (f i).toNat) (forT st f 1 i)) := Lib.hid fun i hi h => by
    have h1 : (st i).ow = 1 := by have h2 := (hl i hi).1.1; rcases h with h | h <;> omega
    unfold forT
    rw [if_pos h1]
    exact fxS_like (hl i hi).1 (hf i hi).2
  have H2 : Hid (∀ i, i < n → ¬ ((1 : Int) < 0 ∨ (st2 i).ow = (1 : Int)) → StL (st2 i) (forT st f 1 i)) := Lib.hid fun i hi h => by
    have h1 : ¬ (st i).ow = 1 := by have h2 := (hl i hi).1.1; intro h3; exact h (.inr (by omega))
    unfold forT
    rw [if_neg h1]
    exact (hl i hi).1
  clear hn hz hf hl hL hB
  go_enter Tryz.func26, Tryz.ntmps26
  go_upto_region 1 with fail
  generalize hZ : World.alloc _ _ = Z
  have HZ : Hid (Below w.heap.size w Z ∧ B1 Z (w.heap.size) 24 (.slice A n c) ∧ B1 Z (w.heap.size + 1) 24 (.slice none 0 0)) := Lib.hid (alloc_2 hZ)
  clear hZ
  have HB0 := Lib.hid HZ.out.1
  have X0 := Lib.hid HZ.out.2.1
  have X1 := Lib.hid HZ.out.2.2
  clear HZ
  have x0 := X0.out.out
  go_wp2_with fail
  clear x0
  (with_reducible refine (HV.out.run HB0.out).mono ?_)
  rintro e w1 ⟨rfl, hB⟩
  replace X0 := Lib.hid (X0.out.keep hB)
  replace X1 := Lib.hid (X1.out.keep hB)
  replace HB0 := Lib.hid (HB0.out.trans (hB.mono HB0.out.size))
  clear hB
  have x0 := X0.out.out
  go_wp2_with fail
  clear x0
  (with_reducible refine (HS.out.run HB0.out).mono ?_)
  rintro e w2 ⟨rfl, hB⟩
  replace X0 := Lib.hid (X0.out.keep hB)
  replace X1 := Lib.hid (X1.out.keep hB)
  replace HB0 := Lib.hid (HB0.out.trans (hB.mono HB0.out.size))
  clear hB
  have x0 := X0.out.out
  go_wp2_with fail
  clear x0
  (with_reducible refine (rfixed_any A B n c n d w.heap.size st2 (forT st f 1) f 1 _ HN.out HB0.out.size (HA.out _ HB0.out) (HBL.out.keep HB0.out) (Nat.le_refl _) HF.out HC.out H1.out H2.out).mono ?_)
  rintro e w3 ⟨A5, c5, st5, rfl, hL, hl, hB⟩
  have hlo := X1.out.lt
  have HLL := Lib.hid hl
  have HPM := Lib.hid (putL (c := c5) (HB0.out.trans (hB.mono HB0.out.size)) (show w.heap.size ≤ w.heap.size + 1 by omega) hlo (X1.out.keep hB) hL)
  have hr := X1.out.keep hB
  have r0 := hr.out
  have f0 := hr.frz
  have hrl := hr.lt
  clear hr hL hl hB hlo X0 X1
  generalize w.heap.size + 1 = gr at *
  go_wp2_with fail
  generalize World.setCell _ _ _ = V at *
  have c0 := HPM.out.1.out
  exact bodyPost_ret (v := .tuple #[.agg #[.slice A5 n c5], .int .i64 0]) (by simp [results, Tryz.results26, go_sem, c0]) rfl ⟨_, _, st5, rfl, HPM.out.2.1, HLL.out, HPM.out.2.2⟩
theorem rfor_ok (A B : Option Addr) (n c d : Nat) (st st2 : Nat → StV) (f : Nat → Int) (pl : Int) (w : World) (hp : pl = 0 ∨ pl = 1) (hn : n ≤ 60) (hz : ∀ i, i < n → (st i).n ≤ 1000) (hf : ∀ i, i < n → 0 ≤ f i ∧ (f i).toNat < (st i).n) (hl : ∀ i, i < n → StL (st2 i) (st i) ∧ (st2 i).n ≤ (st2 i).c) (hL : Lst w A n st2) (hB : Lin w B n f) (HV : CV 21 #[.agg #[.slice A n c]] (.bool true) w) (HS : CV 48 #[.agg #[.slice A n c], .slice B n d] (.bool true) w) :
    Calls Tryz.prog 26 #[.agg #[.slice A n c], .slice B n d, .int .i64 pl] w (RetMd n (forT st f pl) 0 w) := by
  rcases hp with rfl | rfl
  · exact rfor_ok0 A B n c d st st2 f w hn hz hf hl hL hB HV HS
  · exact rfor_ok1 A B n c d st st2 f w hn hz hf hl hL hB HV HS
theorem rfor_far (A B : Option Addr) (n c m d : Nat) (pl : Int) (w : World) (hp : ¬ (pl = 0 ∨ pl = 1)) (hV : CV 21 #[.agg #[.slice A n c]] (.bool true) w) (hS : CV 48 #[.agg #[.slice A n c], .slice B m d] (.bool true) w) :
    Calls Tryz.prog 26 #[.agg #[.slice A n c], .slice B m d, .int .i64 pl] w fun e w' => e = .returned (.tuple #[.agg #[.slice none 0 0], .int .i64 6]) ∧ Below w.heap.size w w' := by
  have HV := Lib.hid hV
  have HS := Lib.hid hS
  have hp0 : (pl != 0) = true := bne_iff_ne.2 (fun h => hp (.inl h))
  have hp1 : (pl != 1) = true := bne_iff_ne.2 (fun h => hp (.inr h))
  clear hp hV hS
  go_enter Tryz.func26, Tryz.ntmps26
  go_upto_region 1 with fail
  generalize hZ : World.alloc _ _ = Z
  have HZ : Hid (Below w.heap.size w Z ∧ B1 Z (w.heap.size) 24 (.slice A n c) ∧ B1 Z (w.heap.size + 1) 24 (.slice none 0 0)) := Lib.hid (alloc_2 hZ)
  clear hZ
  have HB0 := Lib.hid HZ.out.1
  have X0 := Lib.hid HZ.out.2.1
  have X1 := Lib.hid HZ.out.2.2
  clear HZ
  have x0 := X0.out.out
  go_wp2_with fail
  clear x0
  (with_reducible refine (HV.out.run HB0.out).mono ?_)
  rintro e w1 ⟨rfl, hB⟩
  replace X0 := Lib.hid (X0.out.keep hB)
  replace X1 := Lib.hid (X1.out.keep hB)
  replace HB0 := Lib.hid (HB0.out.trans (hB.mono HB0.out.size))
  clear hB
  have x0 := X0.out.out
  go_wp2_with fail
  clear x0
  (with_reducible refine (HS.out.run HB0.out).mono ?_)
  rintro e w2 ⟨rfl, hB⟩
  replace X0 := Lib.hid (X0.out.keep hB)
  replace X1 := Lib.hid (X1.out.keep hB)
  replace HB0 := Lib.hid (HB0.out.trans (hB.mono HB0.out.size))
  clear hB
  have r0 := X1.out.out
  have f0 := X1.out.frz
  have hl := X1.out.lt
  have HP := Lib.hid (X1.out.put (.slice none 0 0))
  have HQ := Lib.hid (HB0.out.setCell (p := ⟨w.heap.size + 1, 0, none⟩) (Nat.le_add_right _ _) (.slice none 0 0))
  have x0 := X0.out.out
  generalize w.heap.size + 1 = gr at *
  go_wp2_with fail
  generalize World.setCell _ _ _ = V at *
  have c0 := HP.out.out
  exact bodyPost_ret (v := .tuple #[.agg #[.slice none 0 0], .int .i64 6]) (by simp [results, Tryz.results26, go_sem, c0]) rfl ⟨rfl, HQ.out⟩
theorem rgol_ok (A D : Option Addr) (n c k q : Nat) (st st2 : Nat → StV) (f : Nat → Int) (w : World) (hn : n ≤ 60) (hk : k ≤ 60) (hl : ∀ i, i < n → StL (st2 i) (st i) ∧ (st2 i).n ≤ (st2 i).c) (hL : Lst w A n st2) (hD : Lin w D k f) (HV : Hid (CV 21 #[.agg #[.slice A n c]] (.bool true) w)) (HS : Hid (CV 47 #[.agg #[.slice A n c], .slice D k q] (.bool true) w)) :
    Calls Tryz.prog 27 #[.agg #[.slice A n c], .slice D k q] w (RetMd n (golT st f k) 0 w) := by
  have HN := Lib.hid hn
  have HK : Hid (k ≤ 1000000) := Lib.hid (by omega)
  have HA : Hid (∀ wx, Below w.heap.size w wx → LstP (fun b => b < w.heap.size) wx A n st2) := Lib.hid fun wx hx => (LstP.old hL).stay hx.size fun b hlt _ => hx.block b hlt
  have HDL := Lib.hid hD
  have H1 : Hid (∀ i, i < n → memB f k (i : Int) = true → StL ⟨(st2 i).ow, (st2 i).mrk, none, 1, 1, fun _ => loopC i⟩ (golT st f k i)) := Lib.hid fun i hi h => by
    unfold golT
    rw [if_pos h]
    exact ⟨(hl i hi).1.1, (hl i hi).1.2.1, rfl, fun _ _ => ChLk.refl _⟩
  have H2 : Hid (∀ i, i < n → memB f k (i : Int) = false → StL (st2 i) (golT st f k i)) := Lib.hid fun i hi h => by
    unfold golT
    rw [if_neg (by rw [h]; exact Bool.false_ne_true)]
    exact (hl i hi).1
  clear hn hk hl hL hD
  go_enter Tryz.func27, Tryz.ntmps27
  go_upto_region 1 with fail
  generalize hZ : World.alloc _ _ = Z
  have HZ : Hid (Below w.heap.size w Z ∧ B1 Z (w.heap.size) 24 (.slice A n c) ∧ B1 Z (w.heap.size + 1) 24 (.slice none 0 0)) := Lib.hid (alloc_2 hZ)
  clear hZ
  have HB0 := Lib.hid HZ.out.1
  have X0 := Lib.hid HZ.out.2.1
  have X1 := Lib.hid HZ.out.2.2
  clear HZ
  have x0 := X0.out.out
  go_wp2_with fail
  clear x0
  (with_reducible refine (HV.out.run HB0.out).mono ?_)
  rintro e w1 ⟨rfl, hB⟩
  replace X0 := Lib.hid (X0.out.keep hB)
  replace X1 := Lib.hid (X1.out.keep hB)
  replace HB0 := Lib.hid (HB0.out.trans (hB.mono HB0.out.size))
  clear hB
  have x0 := X0.out.out
  go_wp2_with fail
  clear x0
  (with_reducible refine (HS.out.run HB0.out).mono ?_)
  rintro e w2 ⟨rfl, hB⟩
  replace X0 := Lib.hid (X0.out.keep hB)
  replace X1 := Lib.hid (X1.out.keep hB)
  replace HB0 := Lib.hid (HB0.out.trans (hB.mono HB0.out.size))
  clear hB
  have x0 := X0.out.out
  go_wp2_with fail
  clear x0
  (with_reducible refine (rabsorb_any A D n c k q w.heap.size st2 (golT st f k) f _ HN.out HB0.out.size (HA.out _ HB0.out) (HDL.out.keep HB0.out) HK.out H1.out H2.out).mono ?_)
  rintro e w3 ⟨A5, c5, st5, rfl, hL, hl, hB⟩
  have hlo := X1.out.lt
  have HLL := Lib.hid hl
  have HPM := Lib.hid (putL (c := c5) (HB0.out.trans (hB.mono HB0.out.size)) (show w.heap.size ≤ w.heap.size + 1 by omega) hlo (X1.out.keep hB) hL)
  have hr := X1.out.keep hB
  have r0 := hr.out
  have f0 := hr.frz
  have hrl := hr.lt
  clear hr hL hl hB hlo X0 X1
  generalize w.heap.size + 1 = gr at *
  go_wp2_with fail
  generalize World.setCell _ _ _ = V at *
  have c0 := HPM.out.1.out
  exact bodyPost_ret (v := .tuple #[.agg #[.slice A5 n c5], .int .i64 0]) (by simp [results, Tryz.results27, go_sem, c0]) rfl ⟨_, _, st5, rfl, HPM.out.2.1, HLL.out, HPM.out.2.2⟩
end Go.Proofs.YtokbejkkpekpnaaGreatDoor
