/- Models that say the same; the model fixed by a strategy, and with a goal that is not left. -/
import Derived.Test.YtokbejkkpekpnaaGreatDoorF39
import Derived.Test.YtokbejkkpekpnaaGreatDoorF37
import Derived.Lib.SliceRun

set_option maxRecDepth 100000
set_option maxHeartbeats 40000000
namespace Go.Proofs.YtokbejkkpekpnaaGreatDoor
open Go.RowKit
theorem brE_like {h h' : ChV} (H : ChLk h h') {i : Nat} (hi : i < h'.n) : brE h h' i = true := by
  obtain ⟨a, b, c⟩ := H.2.2.2 i hi
  unfold brE
  rw [a, b, c]
  simp
theorem chE_like {h h' : ChV} (H : ChLk h h') : chE h h' = true := by
  unfold chE
  rw [H.1, H.2.1, H.2.2.1, allB_true (fun i hi => brE_like H hi)]
  simp
theorem stE_like {s s' : StV} (H : StL s s') : stE s s' = true := by
  unfold stE
  rw [H.1, H.2.1, H.2.2.1, allB_true (fun i hi => chE_like (H.2.2.2 i hi))]
  simp
theorem moE_like {n : Nat} {st st' : Nat → StV} (H : ∀ i, i < n → StL (st i) (st' i)) : moE n n st st' = true := by
  unfold moE
  rw [allB_true (fun i hi => stE_like (H i hi))]
  simp
theorem szs_like {n : Nat} {st st' : Nat → StV} (H : ∀ i, i < n → StL (st i) (st' i)) (hs : Szs n st') : Szs n st := by
  refine ⟨hs.1, fun i hi => ?_, fun i j hi hj => ?_⟩
  · rw [(H i hi).2.2.1]; exact hs.2.1 i hi
  · have hj' : j < (st' i).n := by rw [← (H i hi).2.2.1]; exact hj
    rw [((H i hi).2.2.2 j hj').2.2.1]
    exact hs.2.2 i j hi hj'
theorem szs_fix {n : Nat} {st : Nat → StV} {f : Nat → Int} (hs : Szs n st) (hf : ∀ i, i < n → (f i).toNat < (st i).n) : Szs n (fixT st f) :=
  ⟨hs.1, fun i _ => (by show 1 ≤ 1000000; omega), fun i j hi _ => hs.2.2 i _ hi (hf i hi)⟩
theorem szs_for {n : Nat} {st : Nat → StV} {f : Nat → Int} (pl : Int) (hs : Szs n st) (hf : ∀ i, i < n → (f i).toNat < (st i).n) : Szs n (forT st f pl) := by
  have h2 := szs_fix hs hf
  refine ⟨hs.1, fun i hi => ?_, fun i j hi hj => ?_⟩
  · unfold forT
    split
    · exact h2.2.1 i hi
    · exact hs.2.1 i hi
  · unfold forT at hj ⊢
    split at hj
    · rename_i e
      rw [if_pos e]
      exact h2.2.2 i j hi hj
    · rename_i e
      rw [if_neg e]
      exact hs.2.2 i j hi hj
theorem szs_gol {n : Nat} {st : Nat → StV} (f : Nat → Int) (m : Nat) (hs : Szs n st) : Szs n (golT st f m) := by
  refine ⟨hs.1, fun i hi => ?_, fun i j hi hj => ?_⟩
  · unfold golT
    split
    · show 1 ≤ 1000000; omega
    · exact hs.2.1 i hi
  · unfold golT at hj ⊢
    split at hj
    · rename_i e
      rw [if_pos e]
      show 1 ≤ 1000000; omega
    · rename_i e
      rw [if_neg e]
      exact hs.2.2 i j hi hj
theorem strB_lt {n m : Nat} {st : Nat → StV} {f : Nat → Int} (h : strB n m st f = true) : m = n ∧ ∀ i, i < n → 0 ≤ f i ∧ (f i).toNat < (st i).n := by
  simp only [strB, Bool.and_eq_true, Bool.not_eq_true', bne_eq_false_iff_eq] at h
  have e : m = n := by omega
  subst e
  refine ⟨rfl, fun i hi => ?_⟩
  have h2 := allB_get h.2 hi
  simp only [strP, Bool.and_eq_true, Bool.not_eq_true', decide_eq_false_iff_not] at h2
  omega
def RetMd (n : Nat) (tg : Nat → StV) (y : Int) (w : World) (e : Ending) (w' : World) : Prop := ∃ A c st, e = .returned (.tuple #[.agg #[.slice A n c], .int .i64 y]) ∧ Lst w' A n st ∧ (∀ i, i < n → StL (st i) (tg i)) ∧ Below w.heap.size w w'
def LstP (P : Nat → Prop) (w : World) (A : Option Addr) (n : Nat) (st : Nat → StV) : Prop :=
  Rows3P P w A n (fun i => .int .i64 (st i).ow) (fun i => .int .i64 (st i).mrk) (fun i => .slice (st i).A (st i).n (st i).c) ∧ ∀ i, i < n → StP P w (st i)
theorem LstP.to {P : Nat → Prop} {w : World} {A : Option Addr} {n : Nat} {st : Nat → StV} (h : LstP P w A n st) : Lst w A n st := ⟨h.1.to, fun i hi => (h.2 i hi).to⟩
theorem LstP.stay {P : Nat → Prop} {w w' : World} {A : Option Addr} {n : Nat} {st : Nat → StV} (h : LstP P w A n st) (hs : w.heap.size ≤ w'.heap.size) (hb : ∀ b, b < w.heap.size → P b → w'.heap[b]? = w.heap[b]?) : LstP P w' A n st := ⟨h.1.stay hs hb, fun i hi => (h.2 i hi).stay hs hb⟩
theorem LstP.imp {P P' : Nat → Prop} {w : World} {A : Option Addr} {n : Nat} {st : Nat → StV} (h : LstP P w A n st) (hP : ∀ b, b < w.heap.size → P b → P' b) : LstP P' w A n st := ⟨h.1.imp hP, fun i hi => (h.2 i hi).imp hP⟩
def RetMo (n : Nat) (tg : Nat → StV) (w : World) (e : Ending) (w' : World) : Prop := ∃ A c st, e = .returned (.agg #[.slice A n c]) ∧ LstP (fun b => w.heap.size ≤ b) w' A n st ∧ (∀ i, i < n → StL (st i) (tg i)) ∧ Below w.heap.size w w'
theorem RetMd.none {y : Int} {w : World} {e : Ending} {w' : World} (tg : Nat → StV) (h : e = .returned (.tuple #[.agg #[.slice none 0 0], .int .i64 y]) ∧ Below w.heap.size w w') : RetMd 0 tg y w e w' :=
  ⟨_, 0, tg, h.1, ⟨fun h => absurd h (by omega), fun i hi => absurd hi (by omega)⟩, fun i hi => absurd hi (by omega), h.2⟩
def RetCo (n : Nat) (tg : Nat → StV) (w : World) (e : Ending) (w' : World) : Prop := ∃ A c st, e = .returned (.agg #[.slice A n c]) ∧ Lst w' A n st ∧ (∀ i, i < n → StL (st i) (tg i) ∧ (st i).n ≤ (st i).c) ∧ Below w.heap.size w w'
theorem own_cap {w : World} {base T : Nat} {A : Option Addr} {n c : Nat} {xs : List Value} (h : w.ownsRow base T 3 (.slice A n c) n xs) : n ≤ c := by
  rcases h.2 with ⟨-, h0⟩ | ⟨g, cap, cur, e, -, -, hnc, -⟩
  · omega
  · injection e with e1 e2 e3
    omega
def B1 (w : World) (g T : Nat) (v : Value) : Prop := w.heap[g]? = some (.cells #[v] T (0, 0))
theorem B1.lt {w : World} {g T : Nat} {v : Value} (h : B1 w g T v) : g < w.heap.size := lt_of_heap h
theorem B1.block {w w' : World} {g T : Nat} {v : Value} (h : B1 w g T v) (hb : w'.heap[g]? = w.heap[g]?) : B1 w' g T v := hb.trans h
theorem B1.keep {w w' : World} {g T : Nat} {v : Value} (h : B1 w g T v) (hb : Below w.heap.size w w') : B1 w' g T v := h.block (hb.block g h.lt)
theorem B1.out {w : World} {g T : Nat} {v : Value} (h : B1 w g T v) : w.cell? ⟨g, 0, none⟩ = some v := by
  have hh : w.heap[g]? = some (.cells #[v] T (0, 0)) := h
  simp [World.cell?, hh]
theorem B1.frz {w : World} {g T : Nat} {v : Value} (h : B1 w g T v) : w.frozen? ⟨g, 0, none⟩ = false := by
  have hh : w.heap[g]? = some (.cells #[v] T (0, 0)) := h
  simp [World.frozen?, hh]
theorem B1.put {w : World} {g T : Nat} {v : Value} (h : B1 w g T v) (u : Value) : B1 (w.setCell ⟨g, 0, none⟩ u) g T u := by
  have hh : w.heap[g]? = some (.cells #[v] T (0, 0)) := h
  unfold B1
  simp [World.setCell, Array.getElem?_modify, hh]
theorem B1.new (w : World) (T : Nat) (v : Value) : B1 (w.alloc (.cells #[v] T)) w.heap.size T v := heap_alloc_new w _
theorem below_eq {X Y : World} {o : Obj} (h : X.alloc o = Y) : Below X.heap.size X Y := by
  rw [← h]
  exact below_alloc _ _
theorem list1a {X Y : World} {v1 : Value} {T : Nat} (h : X.alloc (.cells #[v1] T) = Y) : Y.cell? ⟨X.heap.size, 0, none⟩ = some v1 ∧ X.heap.size < Y.heap.size := by
  subst h
  simp [go_sem]
theorem all1a (b1 : Bool) : allB (fun _ => b1) 1 = b1 := by
  cases b1 <;> rfl
def OnCopy (f : Nat) (n : Nat) (st : Nat → StV) (more : Array Value) (k : Nat) (tg : Nat → StV) (y : Int) (w : World) : Prop :=
  ∀ wx A' c' st', Below w.heap.size w wx → Lst wx A' n st' → (∀ i, i < n → StL (st' i) (st i) ∧ (st' i).n ≤ (st' i).c) → Calls Tryz.prog f (#[.agg #[.slice A' n c']] ++ more) wx (RetMd k tg y wx)
theorem rident_like {w : World} {A B : Option Addr} {n c d : Nat} {st st' tg : Nat → StV} (hA : Lst w A n st) (hB : Lst w B n st') (h : ∀ i, i < n → StL (st i) (tg i)) (h' : ∀ i, i < n → StL (st' i) (tg i)) (hs : Szs n tg) :
    Calls Tryz.prog 23 #[.agg #[.slice A n c], .agg #[.slice B n d]] w fun e w' => e = .returned (.bool true) ∧ Below w.heap.size w w' := by
  have := rident_any A B n c n d st st' w hA hB (szs_like h hs) (szs_like h' hs)
  rw [moE_like (fun i hi => (h i hi).trans (h' i hi).symm)] at this
  exact this
theorem fixes_m (A B D : Option Addr) (n c m d k q : Nat) (pl : Int) (b1 : Bool) (hb : b1 = true) (w : World)
    (HFa : Hid (CV 43 #[.int .i64 40, .agg #[.slice A n c]] (.bool b1) w))
    (HAw : Hid (CV 11 #[] (.bool true) w)) (hl : decide ((60 : Int) < (m : Int)) = true) : 
    Calls Tryz.prog 4 #[.agg #[.slice A n c], .slice B m d, .int .i64 pl, .slice D k q] w fun e w' => e = .returned (.bool true) ∧ Below w.heap.size w w' := by
  go_enter Tryz.func4, Tryz.ntmps4
  go_upto_region 1 with fail
  generalize hX : w.alloc _ = X
  have HX : Hid (Below w.heap.size w X) := by rw [← hX]; exact below_alloc _ _
  have KX : Hid (MBx X w.heap.size A n c) := by rw [← hX]; exact MBx.new _ _ _ _ _
  clear hX
  obtain ⟨k0, -⟩ := KX.out
  go_wp2_with fail
  clear k0
  generalize hY : X.alloc _ = Y
  have HY : Hid (Below w.heap.size w Y) := by rw [← hY]; exact Lib.hid (HX.out.trans ((below_alloc X _).mono HX.out.size))
  have KY : Hid (MBx Y w.heap.size A n c) := by rw [← hY]; exact Lib.hid (KX.out.keep (below_alloc _ _))
  obtain ⟨y0, y2⟩ := list1a hY
  clear hY HX KX
  have HLs : Hid (∀ i, i < 1 → Y.cell? ⟨X.heap.size, i, none⟩ = some (.slice ((fun _ => A) i) ((fun _ => n) i) ((fun _ => c) i))) := fun i hi => by
    obtain rfl : i = 0 := by omega
    exact y0
  have HFs : Hid (∀ i, i < 1 → CV 43 #[.int .i64 40, .agg #[.slice ((fun _ => A) i) ((fun _ => n) i) ((fun _ => c) i)]] (.bool ((fun _ => b1) i)) Y) := fun i hi => HFa.out.keep HY.out
  (with_reducible refine (lfew_any X.heap.size 1 (fun _ => A) (fun _ => n) (fun _ => c) (fun _ => b1) Y (by omega) y2 HLs HFs).mono ?_)
  rintro e w0 ⟨rfl, hB⟩
  rw [all1a]
  have H0 := Lib.hid (HY.out.trans (hB.mono HY.out.size))
  have K0 := Lib.hid (KY.out.keep hB)
  clear hB HY KY y0 y2 HFa HLs HFs
  rw [hb]
  go_wp2_with fail
  (with_reducible refine (HAw.out.run H0.out).mono ?_)
  rintro e wz ⟨rfl, hBz⟩
  have CZ := Lib.hid (H0.out.trans (hBz.mono H0.out.size))
  clear hBz
  go_wp2_with fail
  go_ret
  exact ⟨rfl, CZ.out⟩
theorem fixes_k (A B D : Option Addr) (n c m d k q : Nat) (pl : Int) (b1 : Bool) (hb : b1 = true) (w : World)
    (HFa : Hid (CV 43 #[.int .i64 40, .agg #[.slice A n c]] (.bool b1) w))
    (HAw : Hid (CV 11 #[] (.bool true) w)) (hl : decide ((60 : Int) < (m : Int)) = false) (hl2 : decide ((60 : Int) < (k : Int)) = true) : 
    Calls Tryz.prog 4 #[.agg #[.slice A n c], .slice B m d, .int .i64 pl, .slice D k q] w fun e w' => e = .returned (.bool true) ∧ Below w.heap.size w w' := by
  go_enter Tryz.func4, Tryz.ntmps4
  go_upto_region 1 with fail
  generalize hX : w.alloc _ = X
  have HX : Hid (Below w.heap.size w X) := by rw [← hX]; exact below_alloc _ _
  have KX : Hid (MBx X w.heap.size A n c) := by rw [← hX]; exact MBx.new _ _ _ _ _
  clear hX
  obtain ⟨k0, -⟩ := KX.out
  go_wp2_with fail
  clear k0
  generalize hY : X.alloc _ = Y
  have HY : Hid (Below w.heap.size w Y) := by rw [← hY]; exact Lib.hid (HX.out.trans ((below_alloc X _).mono HX.out.size))
  have KY : Hid (MBx Y w.heap.size A n c) := by rw [← hY]; exact Lib.hid (KX.out.keep (below_alloc _ _))
  obtain ⟨y0, y2⟩ := list1a hY
  clear hY HX KX
  have HLs : Hid (∀ i, i < 1 → Y.cell? ⟨X.heap.size, i, none⟩ = some (.slice ((fun _ => A) i) ((fun _ => n) i) ((fun _ => c) i))) := fun i hi => by
    obtain rfl : i = 0 := by omega
    exact y0
  have HFs : Hid (∀ i, i < 1 → CV 43 #[.int .i64 40, .agg #[.slice ((fun _ => A) i) ((fun _ => n) i) ((fun _ => c) i)]] (.bool ((fun _ => b1) i)) Y) := fun i hi => HFa.out.keep HY.out
  (with_reducible refine (lfew_any X.heap.size 1 (fun _ => A) (fun _ => n) (fun _ => c) (fun _ => b1) Y (by omega) y2 HLs HFs).mono ?_)
  rintro e w0 ⟨rfl, hB⟩
  rw [all1a]
  have H0 := Lib.hid (HY.out.trans (hB.mono HY.out.size))
  have K0 := Lib.hid (KY.out.keep hB)
  clear hB HY KY y0 y2 HFa HLs HFs
  rw [hb]
  go_wp2_with fail
  (with_reducible refine (HAw.out.run H0.out).mono ?_)
  rintro e wz ⟨rfl, hBz⟩
  have CZ := Lib.hid (H0.out.trans (hBz.mono H0.out.size))
  clear hBz
  go_wp2_with fail
  go_ret
  exact ⟨rfl, CZ.out⟩
theorem fixes_dark (A B D : Option Addr) (n c m d k q : Nat) (pl : Int) (b1 : Bool) (hb : b1 = false) (w : World)
    (HFa : Hid (CV 43 #[.int .i64 40, .agg #[.slice A n c]] (.bool b1) w))
    (HAw : Hid (CV 11 #[] (.bool true) w)) : 
    Calls Tryz.prog 4 #[.agg #[.slice A n c], .slice B m d, .int .i64 pl, .slice D k q] w fun e w' => e = .returned (.bool true) ∧ Below w.heap.size w w' := by
  go_enter Tryz.func4, Tryz.ntmps4
  go_upto_region 1 with fail
  generalize hX : w.alloc _ = X
  have HX : Hid (Below w.heap.size w X) := by rw [← hX]; exact below_alloc _ _
  have KX : Hid (MBx X w.heap.size A n c) := by rw [← hX]; exact MBx.new _ _ _ _ _
  clear hX
  obtain ⟨k0, -⟩ := KX.out
  go_wp2_with fail
  clear k0
  generalize hY : X.alloc _ = Y
  have HY : Hid (Below w.heap.size w Y) := by rw [← hY]; exact Lib.hid (HX.out.trans ((below_alloc X _).mono HX.out.size))
  have KY : Hid (MBx Y w.heap.size A n c) := by rw [← hY]; exact Lib.hid (KX.out.keep (below_alloc _ _))
  obtain ⟨y0, y2⟩ := list1a hY
  clear hY HX KX
  have HLs : Hid (∀ i, i < 1 → Y.cell? ⟨X.heap.size, i, none⟩ = some (.slice ((fun _ => A) i) ((fun _ => n) i) ((fun _ => c) i))) := fun i hi => by
    obtain rfl : i = 0 := by omega
    exact y0
  have HFs : Hid (∀ i, i < 1 → CV 43 #[.int .i64 40, .agg #[.slice ((fun _ => A) i) ((fun _ => n) i) ((fun _ => c) i)]] (.bool ((fun _ => b1) i)) Y) := fun i hi => HFa.out.keep HY.out
  (with_reducible refine (lfew_any X.heap.size 1 (fun _ => A) (fun _ => n) (fun _ => c) (fun _ => b1) Y (by omega) y2 HLs HFs).mono ?_)
  rintro e w0 ⟨rfl, hB⟩
  rw [all1a]
  have H0 := Lib.hid (HY.out.trans (hB.mono HY.out.size))
  have K0 := Lib.hid (KY.out.keep hB)
  clear hB HY KY y0 y2 HFa HLs HFs
  rw [hb]
  go_wp2_with fail
  (with_reducible refine (HAw.out.run H0.out).mono ?_)
  rintro e wz ⟨rfl, hBz⟩
  have CZ := Lib.hid (H0.out.trans (hBz.mono H0.out.size))
  clear hBz
  go_wp2_with fail
  go_ret
  exact ⟨rfl, CZ.out⟩
theorem fixes_all (A B D : Option Addr) (n c m d k q : Nat) (pl : Int) (b1 : Bool) (hb : b1 = true) (w : World)
    (HFa : Hid (CV 43 #[.int .i64 40, .agg #[.slice A n c]] (.bool b1) w))
    (HAw : Hid (CV 11 #[] (.bool true) w))
    (hl : decide ((60 : Int) < (m : Int)) = false) (hl2 : decide ((60 : Int) < (k : Int)) = false)
    (st tg1 tg2 tg3 : Nat → StV) (n1 n2 n3 : Nat) (y1 y2 y3 : Int)
    (HCo : Hid (∀ wx, Below w.heap.size w wx → Calls Tryz.prog 25 #[.agg #[.slice A n c]] wx (RetCo n st wx)))
    (R1 : Hid (∀ wx A' c' st', Below w.heap.size w wx → Lst wx A' n st' → (∀ i, i < n → StL (st' i) (st i) ∧ (st' i).n ≤ (st' i).c) → Calls Tryz.prog 24 #[.agg #[.slice A' n c'], .slice B m d] wx (RetMd n1 tg1 y1 wx)))
    (R2 : Hid (∀ wx A' c' st', Below w.heap.size w wx → Lst wx A' n st' → (∀ i, i < n → StL (st' i) (st i) ∧ (st' i).n ≤ (st' i).c) → Calls Tryz.prog 26 #[.agg #[.slice A' n c'], .slice B m d, .int .i64 pl] wx (RetMd n2 tg2 y2 wx)))
    (R3 : Hid (∀ wx A' c' st', Below w.heap.size w wx → Lst wx A' n st' → (∀ i, i < n → StL (st' i) (st i) ∧ (st' i).n ≤ (st' i).c) → Calls Tryz.prog 27 #[.agg #[.slice A' n c'], .slice D k q] wx (RetMd n3 tg3 y3 wx)))
    (P1 : Hid (∀ wx, Below w.heap.size w wx → Calls Tryz.prog 28 #[.agg #[.slice A n c], .slice B m d] wx (RetMd n1 tg1 y1 wx)))
    (P2 : Hid (∀ wx, Below w.heap.size w wx → Calls Tryz.prog 29 #[.agg #[.slice A n c], .slice B m d, .int .i64 pl] wx (RetMd n2 tg2 y2 wx)))
    (P3 : Hid (∀ wx, Below w.heap.size w wx → Calls Tryz.prog 30 #[.agg #[.slice A n c], .slice D k q] wx (RetMd n3 tg3 y3 wx)))
    (S1 : Hid (Szs n1 tg1)) (S2 : Hid (Szs n2 tg2)) (S3 : Hid (Szs n3 tg3)) : 
    Calls Tryz.prog 4 #[.agg #[.slice A n c], .slice B m d, .int .i64 pl, .slice D k q] w fun e w' => e = .returned (.bool true) ∧ Below w.heap.size w w' := by
  go_enter Tryz.func4, Tryz.ntmps4
  go_upto_region 1 with fail
  generalize hX : w.alloc _ = X
  have HX : Hid (Below w.heap.size w X) := by rw [← hX]; exact below_alloc _ _
  have KX : Hid (MBx X w.heap.size A n c) := by rw [← hX]; exact MBx.new _ _ _ _ _
  clear hX
  obtain ⟨k0, -⟩ := KX.out
  go_wp2_with fail
  clear k0
  generalize hY : X.alloc _ = Y
  have HY : Hid (Below w.heap.size w Y) := by rw [← hY]; exact Lib.hid (HX.out.trans ((below_alloc X _).mono HX.out.size))
  have KY : Hid (MBx Y w.heap.size A n c) := by rw [← hY]; exact Lib.hid (KX.out.keep (below_alloc _ _))
  obtain ⟨y0, y2⟩ := list1a hY
  clear hY HX KX
  have HLs : Hid (∀ i, i < 1 → Y.cell? ⟨X.heap.size, i, none⟩ = some (.slice ((fun _ => A) i) ((fun _ => n) i) ((fun _ => c) i))) := fun i hi => by
    obtain rfl : i = 0 := by omega
    exact y0
  have HFs : Hid (∀ i, i < 1 → CV 43 #[.int .i64 40, .agg #[.slice ((fun _ => A) i) ((fun _ => n) i) ((fun _ => c) i)]] (.bool ((fun _ => b1) i)) Y) := fun i hi => HFa.out.keep HY.out
  (with_reducible refine (lfew_any X.heap.size 1 (fun _ => A) (fun _ => n) (fun _ => c) (fun _ => b1) Y (by omega) y2 HLs HFs).mono ?_)
  rintro e w0 ⟨rfl, hB⟩
  rw [all1a]
  have H0 := Lib.hid (HY.out.trans (hB.mono HY.out.size))
  have K0 := Lib.hid (KY.out.keep hB)
  clear hB HY KY y0 y2 HFa HLs HFs
  rw [hb]
  have K := K0
  clear K0
  have HH := H0
  clear H0
  obtain ⟨k0, -⟩ := K.out
  go_wp2_with fail
  clear k0
  (with_reducible refine (HCo.out _ HH.out).mono ?_)
  rintro e wc ⟨Ac, cc, sc, rfl, hL, hS, hB⟩
  replace K := Lib.hid (K.out.keep hB)
  replace HH := Lib.hid (HH.out.trans (hB.mono HH.out.size))
  have L0 := Lib.hid hL
  have E0 := Lib.hid hS
  clear hL hS hB
  go_wp2_with fail
  (with_reducible refine (R1.out _ _ _ _ HH.out L0.out E0.out).mono ?_)
  rintro e wd ⟨A1, c1, s1, rfl, hL, hS, hB⟩
  replace K := Lib.hid (K.out.keep hB)
  replace HH := Lib.hid (HH.out.trans (hB.mono HH.out.size))
  have L1 := Lib.hid hL
  have E1 := Lib.hid hS
  clear hL hS hB L0 E0 R1
  go_upto_region 4 with fail
  generalize hZ : World.alloc _ _ = Z
  have hbz := below_eq hZ
  have B1 := Lib.hid (show MBx Z _ A1 n1 c1 by rw [← hZ]; exact MBx.new _ _ _ _ _)
  replace K := Lib.hid (K.out.keep hbz)
  replace L1 := Lib.hid (L1.out.keep hbz)
  replace HH := Lib.hid (HH.out.trans (hbz.mono HH.out.size))
  clear hZ hbz
  obtain ⟨k0, -⟩ := K.out
  go_wp2_with fail
  clear k0
  (with_reducible refine (HCo.out _ HH.out).mono ?_)
  rintro e wc ⟨Ac, cc, sc, rfl, hL, hS, hB⟩
  replace K := Lib.hid (K.out.keep hB)
  replace L1 := Lib.hid (L1.out.keep hB)
  replace B1 := Lib.hid (B1.out.keep hB)
  replace HH := Lib.hid (HH.out.trans (hB.mono HH.out.size))
  have L0 := Lib.hid hL
  have E0 := Lib.hid hS
  clear hL hS hB
  go_wp2_with fail
  (with_reducible refine (R2.out _ _ _ _ HH.out L0.out E0.out).mono ?_)
  rintro e wd ⟨A2, c2, s2, rfl, hL, hS, hB⟩
  replace K := Lib.hid (K.out.keep hB)
  replace L1 := Lib.hid (L1.out.keep hB)
  replace B1 := Lib.hid (B1.out.keep hB)
  replace HH := Lib.hid (HH.out.trans (hB.mono HH.out.size))
  have L2 := Lib.hid hL
  have E2 := Lib.hid hS
  clear hL hS hB L0 E0 R2
  go_upto_region 5 with fail
  generalize hZ : World.alloc _ _ = Z
  have hbz := below_eq hZ
  have B2 := Lib.hid (show MBx Z _ A2 n2 c2 by rw [← hZ]; exact MBx.new _ _ _ _ _)
  replace K := Lib.hid (K.out.keep hbz)
  replace L1 := Lib.hid (L1.out.keep hbz)
  replace B1 := Lib.hid (B1.out.keep hbz)
  replace L2 := Lib.hid (L2.out.keep hbz)
  replace HH := Lib.hid (HH.out.trans (hbz.mono HH.out.size))
  clear hZ hbz
  obtain ⟨k0, -⟩ := K.out
  go_wp2_with fail
  clear k0
  (with_reducible refine (HCo.out _ HH.out).mono ?_)
  rintro e wc ⟨Ac, cc, sc, rfl, hL, hS, hB⟩
  replace K := Lib.hid (K.out.keep hB)
  replace L1 := Lib.hid (L1.out.keep hB)
  replace B1 := Lib.hid (B1.out.keep hB)
  replace L2 := Lib.hid (L2.out.keep hB)
  replace B2 := Lib.hid (B2.out.keep hB)
  replace HH := Lib.hid (HH.out.trans (hB.mono HH.out.size))
  have L0 := Lib.hid hL
  have E0 := Lib.hid hS
  clear hL hS hB
  go_wp2_with fail
  (with_reducible refine (R3.out _ _ _ _ HH.out L0.out E0.out).mono ?_)
  rintro e wd ⟨A3, c3, s3, rfl, hL, hS, hB⟩
  replace K := Lib.hid (K.out.keep hB)
  replace L1 := Lib.hid (L1.out.keep hB)
  replace B1 := Lib.hid (B1.out.keep hB)
  replace L2 := Lib.hid (L2.out.keep hB)
  replace B2 := Lib.hid (B2.out.keep hB)
  replace HH := Lib.hid (HH.out.trans (hB.mono HH.out.size))
  have L3 := Lib.hid hL
  have E3 := Lib.hid hS
  clear hL hS hB L0 E0 R3
  go_upto_region 6 with fail
  generalize hZ : World.alloc _ _ = Z
  have hbz := below_eq hZ
  have B3 := Lib.hid (show MBx Z _ A3 n3 c3 by rw [← hZ]; exact MBx.new _ _ _ _ _)
  replace K := Lib.hid (K.out.keep hbz)
  replace L1 := Lib.hid (L1.out.keep hbz)
  replace B1 := Lib.hid (B1.out.keep hbz)
  replace L2 := Lib.hid (L2.out.keep hbz)
  replace B2 := Lib.hid (B2.out.keep hbz)
  replace L3 := Lib.hid (L3.out.keep hbz)
  replace HH := Lib.hid (HH.out.trans (hbz.mono HH.out.size))
  clear hZ hbz
  obtain ⟨k0, -⟩ := K.out
  go_wp2_with fail
  clear k0
  (with_reducible refine (P1.out _ HH.out).mono ?_)
  rintro e wd ⟨A4, c4, s4, rfl, hL, hS, hB⟩
  replace K := Lib.hid (K.out.keep hB)
  replace L1 := Lib.hid (L1.out.keep hB)
  replace B1 := Lib.hid (B1.out.keep hB)
  replace L2 := Lib.hid (L2.out.keep hB)
  replace B2 := Lib.hid (B2.out.keep hB)
  replace L3 := Lib.hid (L3.out.keep hB)
  replace B3 := Lib.hid (B3.out.keep hB)
  replace HH := Lib.hid (HH.out.trans (hB.mono HH.out.size))
  have L4 := Lib.hid hL
  have E4 := Lib.hid hS
  clear hL hS hB P1
  go_upto_region 7 with fail
  generalize hZ : World.alloc _ _ = Z
  have hbz := below_eq hZ
  have B4 := Lib.hid (show MBx Z _ A4 n1 c4 by rw [← hZ]; exact MBx.new _ _ _ _ _)
  replace K := Lib.hid (K.out.keep hbz)
  replace L1 := Lib.hid (L1.out.keep hbz)
  replace B1 := Lib.hid (B1.out.keep hbz)
  replace L2 := Lib.hid (L2.out.keep hbz)
  replace B2 := Lib.hid (B2.out.keep hbz)
  replace L3 := Lib.hid (L3.out.keep hbz)
  replace B3 := Lib.hid (B3.out.keep hbz)
  replace L4 := Lib.hid (L4.out.keep hbz)
  replace HH := Lib.hid (HH.out.trans (hbz.mono HH.out.size))
  clear hZ hbz
  obtain ⟨k0, -⟩ := K.out
  go_wp2_with fail
  clear k0
  (with_reducible refine (P2.out _ HH.out).mono ?_)
  rintro e wd ⟨A5, c5, s5, rfl, hL, hS, hB⟩
  replace K := Lib.hid (K.out.keep hB)
  replace L1 := Lib.hid (L1.out.keep hB)
  replace B1 := Lib.hid (B1.out.keep hB)
  replace L2 := Lib.hid (L2.out.keep hB)
  replace B2 := Lib.hid (B2.out.keep hB)
  replace L3 := Lib.hid (L3.out.keep hB)
  replace B3 := Lib.hid (B3.out.keep hB)
  replace L4 := Lib.hid (L4.out.keep hB)
  replace B4 := Lib.hid (B4.out.keep hB)
  replace HH := Lib.hid (HH.out.trans (hB.mono HH.out.size))
  have L5 := Lib.hid hL
  have E5 := Lib.hid hS
  clear hL hS hB P2
  go_upto_region 8 with fail
  generalize hZ : World.alloc _ _ = Z
  have hbz := below_eq hZ
  have B5 := Lib.hid (show MBx Z _ A5 n2 c5 by rw [← hZ]; exact MBx.new _ _ _ _ _)
  replace K := Lib.hid (K.out.keep hbz)
  replace L1 := Lib.hid (L1.out.keep hbz)
  replace B1 := Lib.hid (B1.out.keep hbz)
  replace L2 := Lib.hid (L2.out.keep hbz)
  replace B2 := Lib.hid (B2.out.keep hbz)
  replace L3 := Lib.hid (L3.out.keep hbz)
  replace B3 := Lib.hid (B3.out.keep hbz)
  replace L4 := Lib.hid (L4.out.keep hbz)
  replace B4 := Lib.hid (B4.out.keep hbz)
  replace L5 := Lib.hid (L5.out.keep hbz)
  replace HH := Lib.hid (HH.out.trans (hbz.mono HH.out.size))
  clear hZ hbz
  obtain ⟨k0, -⟩ := K.out
  go_wp2_with fail
  clear k0
  (with_reducible refine (P3.out _ HH.out).mono ?_)
  rintro e wd ⟨A6, c6, s6, rfl, hL, hS, hB⟩
  replace K := Lib.hid (K.out.keep hB)
  replace L1 := Lib.hid (L1.out.keep hB)
  replace B1 := Lib.hid (B1.out.keep hB)
  replace L2 := Lib.hid (L2.out.keep hB)
  replace B2 := Lib.hid (B2.out.keep hB)
  replace L3 := Lib.hid (L3.out.keep hB)
  replace B3 := Lib.hid (B3.out.keep hB)
  replace L4 := Lib.hid (L4.out.keep hB)
  replace B4 := Lib.hid (B4.out.keep hB)
  replace L5 := Lib.hid (L5.out.keep hB)
  replace B5 := Lib.hid (B5.out.keep hB)
  replace HH := Lib.hid (HH.out.trans (hB.mono HH.out.size))
  have L6 := Lib.hid hL
  have E6 := Lib.hid hS
  clear hL hS hB P3
  go_upto_region 9 with fail
  generalize hZ : World.alloc _ _ = Z
  have hbz := below_eq hZ
  have B6 := Lib.hid (show MBx Z _ A6 n3 c6 by rw [← hZ]; exact MBx.new _ _ _ _ _)
  replace K := Lib.hid (K.out.keep hbz)
  replace L1 := Lib.hid (L1.out.keep hbz)
  replace B1 := Lib.hid (B1.out.keep hbz)
  replace L2 := Lib.hid (L2.out.keep hbz)
  replace B2 := Lib.hid (B2.out.keep hbz)
  replace L3 := Lib.hid (L3.out.keep hbz)
  replace B3 := Lib.hid (B3.out.keep hbz)
  replace L4 := Lib.hid (L4.out.keep hbz)
  replace B4 := Lib.hid (B4.out.keep hbz)
  replace L5 := Lib.hid (L5.out.keep hbz)
  replace B5 := Lib.hid (B5.out.keep hbz)
  replace L6 := Lib.hid (L6.out.keep hbz)
  replace HH := Lib.hid (HH.out.trans (hbz.mono HH.out.size))
  clear hZ hbz
  clear K
  obtain ⟨k0, -⟩ := B1.out
  obtain ⟨k1, -⟩ := B4.out
  go_wp2_with fail
  clear k0 k1
  (with_reducible refine (rident_like L4.out L1.out E4.out E1.out S1.out).mono ?_)
  rintro e we ⟨rfl, hB⟩
  clear L1 L4 E1 E4 B1 B4
  replace L2 := Lib.hid (L2.out.keep hB)
  replace B2 := Lib.hid (B2.out.keep hB)
  replace L3 := Lib.hid (L3.out.keep hB)
  replace B3 := Lib.hid (B3.out.keep hB)
  replace L5 := Lib.hid (L5.out.keep hB)
  replace B5 := Lib.hid (B5.out.keep hB)
  replace L6 := Lib.hid (L6.out.keep hB)
  replace B6 := Lib.hid (B6.out.keep hB)
  replace HH := Lib.hid (HH.out.trans (hB.mono HH.out.size))
  clear hB
  obtain ⟨k0, -⟩ := B2.out
  obtain ⟨k1, -⟩ := B5.out
  go_wp2_with fail
  clear k0 k1
  (with_reducible refine (rident_like L5.out L2.out E5.out E2.out S2.out).mono ?_)
  rintro e we ⟨rfl, hB⟩
  clear L2 L5 E2 E5 B2 B5
  replace L3 := Lib.hid (L3.out.keep hB)
  replace B3 := Lib.hid (B3.out.keep hB)
  replace L6 := Lib.hid (L6.out.keep hB)
  replace B6 := Lib.hid (B6.out.keep hB)
  replace HH := Lib.hid (HH.out.trans (hB.mono HH.out.size))
  clear hB
  obtain ⟨k0, -⟩ := B3.out
  obtain ⟨k1, -⟩ := B6.out
  go_wp2_with fail
  clear k0 k1
  (with_reducible refine (rident_like L6.out L3.out E6.out E3.out S3.out).mono ?_)
  rintro e we ⟨rfl, hB⟩
  clear L3 L6 E3 E6 B3 B6
  replace HH := Lib.hid (HH.out.trans (hB.mono HH.out.size))
  clear hB
  go_wp2_with fail
  (with_reducible refine (HAw.out.run HH.out).mono ?_)
  rintro e wz ⟨rfl, hBz⟩
  have CZ := Lib.hid (HH.out.trans (hBz.mono HH.out.size))
  clear hBz
  go_wp2_with fail
  go_ret
  exact ⟨rfl, CZ.out⟩
theorem allB_same {p q : Nat → Bool} : ∀ {n : Nat}, (∀ i, i < n → p i = q i) → allB p n = allB q n := by
  intro n h
  cases hq : allB q n with
  | true => exact allB_true fun i hi => (h i hi).trans (allB_get hq hi)
  | false =>
    cases hp : allB p n with
    | false => rfl
    | true =>
      have := allB_true (fun i hi => (h i hi).symm.trans (allB_get hp hi))
      rw [this] at hq
      cases hq
theorem chB_like {ns : Nat} {h h' : ChV} (H : ChLk h h') : chB ns h = chB ns h' := by
  obtain ⟨t, l, A, n, c, tw, ct, cl⟩ := h
  obtain ⟨t', l', A', n', c', tw', ct', cl'⟩ := h'
  obtain ⟨h1, h2, h3, h4⟩ := H
  simp only at h1 h2 h3 h4
  subst h1 h2 h3
  have hb : allB (brB ns tw ct cl) n = allB (brB ns tw' ct' cl') n := allB_same fun i hi => by
    obtain ⟨a, b, c⟩ := h4 i hi
    obtain ⟨a', -, -⟩ := h4 (i - 1) (by omega)
    unfold brB
    rw [a, b, c, a']
  have hc : chSum ct cl n = chSum ct' cl' n := sumQ_congr fun i hi => by
    obtain ⟨a, b, c⟩ := h4 i hi
    rw [b, c]
  show (vld t l && bsB ns n tw ct cl) = (vld t l && bsB ns n tw' ct' cl')
  unfold bsB
  rw [hb, hc]
theorem stB_like {ns : Nat} {s s' : StV} (H : StL s s') : stB ns s = stB ns s' := by
  unfold stB
  rw [H.1, H.2.1, H.2.2.1, allB_same (fun j hj => chB_like (H.2.2.2 j hj))]
theorem moB_like {n : Nat} {st st' : Nat → StV} (H : ∀ i, i < n → StL (st i) (st' i)) : moB n st = moB n st' := by
  unfold moB
  rw [allB_same (fun i hi => stB_like (H i hi))]
theorem strB_like {n m : Nat} {st st' : Nat → StV} (f : Nat → Int) (H : ∀ i, i < n → StL (st i) (st' i)) : strB n m st f = strB n m st' f := by
  unfold strB
  cases h : ((m : Int) != (n : Int)) with
  | true => rfl
  | false =>
    have e : m = n := by have := bne_eq_false_iff_eq.1 h; omega
    subst e
    rw [allB_same (p := strP st f) (q := strP st' f) (fun i hi => by unfold strP; rw [(H i hi).2.2.1])]
theorem wpList_copyB {ops : Array Oper} {rest : List Oper} {o : Oper} {a : Act} {Q : Exit → Act → World → Prop} {W : World} (hgd : o.guard = none) (s x : Operand)
    (ho : o.op = .call { callee := .builtin .append, args := #[s, x], argTypes := #[63, 63] })
    (g : Nat) (h : ChV) (ca : Nat) (hs : a.eval s = .slice (some ⟨g, 0, none⟩) 0 0) (hx : a.eval x = .slice h.A h.n ca)
    (hA : Lbr W h.A h.n h.tw h.ct h.cl) (hn : h.n ≤ 1000)
    (H : ∀ A' c' W', BrP (fun b => W.heap.size ≤ b) W' ⟨h.t, h.l, A', h.n, c', h.tw, h.ct, h.cl⟩ → Below W.heap.size W W' → wpList Tryz.prog ops Q rest (a.put o.dst (.slice A' h.n c')) W') : wpList Tryz.prog ops Q (o :: rest) a W :=
  wpList_plain hgd fun K hK => by
    obtain ⟨A', c', W', hr, hb, hg⟩ := run_copyB W o.type g h ca hA hn
    unfold Oper.wp execOp
    simp only [ho, resolve, invoke, builtin, Sem.run_bind, Sem.run_pure, Result.andThen_ok, List.map_toArray, List.map_cons, List.map_nil, hs, hx, hr]
    exact hK _ _ (H A' c' W' hb hg)
def BV (lo : Nat) (w : World) (u : Value) (h : ChV) : Prop := ∃ A' c', u = .slice A' h.n c' ∧ BrP (fun b => lo ≤ b) w ⟨h.t, h.l, A', h.n, c', h.tw, h.ct, h.cl⟩
def RetBr (h : ChV) (w : World) (e : Ending) (w' : World) : Prop := ∃ u, e = .returned u ∧ BV w.heap.size w' u h ∧ Below w.heap.size w w'
theorem clone_any (h : ChV) (w : World) (hA : Lbr w h.A h.n h.tw h.ct h.cl) (hn : h.n ≤ 1000) :
    Calls Tryz.prog 103 #[.slice h.A h.n h.c] w (RetBr h w) := by
  have q : ∀ (w : World) (a : Option Addr) (n c n' c' : Nat), (binOp .eql 63 (.slice a n c) (.slice none n' c')).run Tryz.prog w = .ok (.bool a.isNone) w := fun w a n c n' c' => Lib.run_eql_slice_nil w _ _ a n c n' c' Tryz.underlying63
  have HA := Lib.hid hA
  have HN := Lib.hid hn
  clear hA hn
  obtain ⟨t, l, A, n, c, tw, ct, cl⟩ := h
  cases A with
  | none =>
    have h0 : n = 0 := by
      rcases Nat.eq_zero_or_pos n with h | h
      · exact h
      · obtain ⟨b, off, e, -⟩ := HA.out h
        cases e
    subst h0
    go_enter Tryz.func103, Tryz.ntmps103
    go_wp2_with fail
    go_ret
    exact ⟨_, rfl, ⟨none, 0, rfl, fun h => absurd h (by show ¬ 0 < 0; omega)⟩, Below.refl _ _⟩
  | some a =>
    go_enter Tryz.func103, Tryz.ntmps103
    go_wp2_with (at_builtin; refine wpList_copyB rfl _ _ rfl _ ⟨t, l, some a, n, c, tw, ct, cl⟩ _ rfl rfl ?q2 ?q3 ?_)
    case q2 => exact HA.out.keep (below_alloc _ _)
    case q3 => exact HN.out
    intro A' c' w1 hb hg
    have HB : Hid (BrP (fun b => w.heap.size ≤ b) w1 ⟨t, l, A', n, c', tw, ct, cl⟩) := Lib.hid (hb.imp fun b _ hp => by have h2 : w.heap.size + 1 ≤ b := hp; omega)
    have HG : Hid (Below w.heap.size w w1) := Lib.hid ((below_alloc w _).trans (hg.mono (by omega)))
    clear hb hg
    go_wp2_with fail
    go_ret
    exact ⟨_, rfl, ⟨A', c', rfl, HB.out⟩, HG.out⟩
end Go.Proofs.YtokbejkkpekpnaaGreatDoor
