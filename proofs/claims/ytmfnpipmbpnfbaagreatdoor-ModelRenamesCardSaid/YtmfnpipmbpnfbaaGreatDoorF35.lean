/- The game of dice of the chapter, built. -/
import Derived.Test.YtmfnpipmbpnfbaaGreatDoorF34
import Derived.Test.YtmfnpipmbpnfbaaGreatDoorF33

set_option maxRecDepth 100000
set_option maxHeartbeats 40000000
namespace Go.Proofs.YtmfnpipmbpnfbaaGreatDoor
open Go.RowKit
def Bk (w : World) (g T : Nat) (cs : Array Value) : Prop := w.heap[g]? = some (.cells cs T (0, 0))
theorem Bk.keep {w w' : World} {g T : Nat} {cs : Array Value} (h : Bk w g T cs) (hb : Below w.heap.size w w') : Bk w' g T cs := (hb.block g (lt_of_heap h)).trans h
theorem Bk.new (w : World) (cs : Array Value) (T : Nat) : Bk (w.alloc (.cells cs T)) w.heap.size T cs := heap_alloc_new w _
theorem Bk.new_ (w : World) (cs : Array Value) (T : Nat) {g : Nat} (hg : g = w.heap.size) : Bk (w.alloc (.cells cs T)) g T cs := hg ▸ Bk.new w cs T
theorem Bk.cell {w : World} {g T : Nat} {cs : Array Value} (h : Bk w g T cs) (k : Nat) : w.cell? ⟨g, k, none⟩ = cs[k]? := by
  unfold Bk at h
  simp [World.cell?, h]
theorem Bk.cell1 {w : World} {g T : Nat} {u : Value} (h : Bk w g T #[u]) : w.cell? ⟨g, 0, none⟩ = some u := h.cell 0
theorem Bk.frozen {w : World} {g T : Nat} {cs : Array Value} (h : Bk w g T cs) : w.frozen? ⟨g, 0, none⟩ = false := by
  unfold Bk at h
  simp [World.frozen?, h]
theorem size_alloc (w : World) (o : Obj) : (w.alloc o).heap.size = w.heap.size + 1 := by simp [go_sem]
theorem Bk.far {w : World} {g T k : Nat} {cs : Array Value} (h : Bk w g T cs) (hk : k < g) (o : Nat) (u : Value) : Bk (w.setCell ⟨k, o, none⟩ u) g T cs := (Below.heap_setCell w ⟨k, o, none⟩ u g (Nat.ne_of_gt hk)).trans h
theorem Bk.rows {w : World} {g T n : Nat} {cs : Array Value} {p q r : Nat → Value} (h : Bk w g T cs) (hc : ∀ i, i < n → cs[i * 3]? = some (p i) ∧ cs[i * 3 + 1]? = some (q i) ∧ cs[i * 3 + 2]? = some (r i)) : Rows3 w (some ⟨g, 0, none⟩) n p q r :=
  fun _ => ⟨g, 0, rfl, lt_of_heap h, fun i hi => by rw [Nat.zero_add]; exact ⟨(h.cell _).trans (hc i hi).1, (h.cell _).trans (hc i hi).2.1, (h.cell _).trans (hc i hi).2.2⟩⟩
theorem Bk.put {w : World} {g T : Nat} {u v : Value} (h : Bk w g T #[u]) : (w.setCell ⟨g, 0, none⟩ v).cell? ⟨g, 0, none⟩ = some v ∧ Bk (w.setCell ⟨g, 0, none⟩ v) g T #[v] := by
  unfold Bk at h
  have h2 : Bk (w.setCell ⟨g, 0, none⟩ v) g T #[v] := by
    unfold Bk
    simp [World.setCell, Array.getElem?_modify, h]
  exact ⟨h2.cell1, h2⟩
theorem below4 {n : Nat} (hn : n ≤ 3) {P : Nat → Prop} (h0 : 0 < n → P 0) (h1 : 1 < n → P 1) (h2 : 2 < n → P 2) (i : Nat) (hi : i < n) : P i := by
  rcases (show i = 0 ∨ i = 1 ∨ i = 2 by omega) with rfl | rfl | rfl
  · exact h0 hi
  · exact h1 hi
  · exact h2 hi
theorem dSt_of {w : World} {g C1 C2 C3 S1 S2 S3 S4 : Nat} (hS1 : Bk w S1 74 #[.int .i64 1, .int .i64 2, .int .i64 3, .int .i64 2, .int .i64 1, .int .i64 3]) (hS2 : Bk w S2 74 #[.int .i64 0, .int .i64 1, .int .i64 2, .int .i64 1, .int .i64 1, .int .i64 4, .int .i64 2, .int .i64 1, .int .i64 4]) (hS3 : Bk w S3 74 #[.int .i64 1, .int .i64 1, .int .i64 1]) (hS4 : Bk w S4 74 #[.int .i64 2, .int .i64 1, .int .i64 1])
    (hC1 : Bk w C1 65 #[.int .i64 0, .int .i64 1, .slice (some ⟨S1, 0, none⟩) 2 2, .int .i64 0, .int .i64 1, .slice (some ⟨S2, 0, none⟩) 3 3]) (hC2 : Bk w C2 65 #[.int .i64 0, .int .i64 1, .slice (some ⟨S3, 0, none⟩) 1 1]) (hC3 : Bk w C3 65 #[.int .i64 0, .int .i64 1, .slice (some ⟨S4, 0, none⟩) 1 1]) (hg : Bk w g 53 #[.int .i64 0, .int .i64 0, .slice (some ⟨C1, 0, none⟩) 2 2, .int .i64 0, .int .i64 0, .slice (some ⟨C2, 0, none⟩) 1 1, .int .i64 0, .int .i64 1, .slice (some ⟨C3, 0, none⟩) 1 1]) :
    Lst w (some ⟨g, 0, none⟩) 3 (dSt (some ⟨C1, 0, none⟩) (some ⟨C2, 0, none⟩) (some ⟨C3, 0, none⟩) (some ⟨S1, 0, none⟩) (some ⟨S2, 0, none⟩) (some ⟨S3, 0, none⟩) (some ⟨S4, 0, none⟩)) := by
  refine ⟨hg.rows (below4 (by omega) (fun _ => ⟨rfl, rfl, rfl⟩) (fun _ => ⟨rfl, rfl, rfl⟩) (fun _ => ⟨rfl, rfl, rfl⟩)), below4 (by omega) (fun _ => ?_) (fun _ => ?_) (fun _ => ?_)⟩
  · refine ⟨hC1.rows (n := 2) (below4 (by omega) (fun _ => ⟨rfl, rfl, rfl⟩) (fun _ => ⟨rfl, rfl, rfl⟩) (fun h => absurd h (by omega))), below4 (n := 2) (by omega) (fun _ => ?_) (fun _ => ?_) (fun h => absurd h (by omega))⟩
    · exact hS1.rows (n := 2) (below4 (by omega) (fun _ => ⟨rfl, rfl, rfl⟩) (fun _ => ⟨rfl, rfl, rfl⟩) (fun h => absurd h (by omega)))
    · exact hS2.rows (n := 3) (below4 (by omega) (fun _ => ⟨rfl, rfl, rfl⟩) (fun _ => ⟨rfl, rfl, rfl⟩) (fun _ => ⟨rfl, rfl, rfl⟩))
  · refine ⟨hC2.rows (n := 1) (below4 (by omega) (fun _ => ⟨rfl, rfl, rfl⟩) (fun h => absurd h (by omega)) (fun h => absurd h (by omega))), below4 (n := 1) (by omega) (fun _ => ?_) (fun h => absurd h (by omega)) (fun h => absurd h (by omega))⟩
    exact hS3.rows (n := 1) (below4 (by omega) (fun _ => ⟨rfl, rfl, rfl⟩) (fun h => absurd h (by omega)) (fun h => absurd h (by omega)))
  · refine ⟨hC3.rows (n := 1) (below4 (by omega) (fun _ => ⟨rfl, rfl, rfl⟩) (fun h => absurd h (by omega)) (fun h => absurd h (by omega))), below4 (n := 1) (by omega) (fun _ => ?_) (fun h => absurd h (by omega)) (fun h => absurd h (by omega))⟩
    exact hS4.rows (n := 1) (below4 (by omega) (fun _ => ⟨rfl, rfl, rfl⟩) (fun h => absurd h (by omega)) (fun h => absurd h (by omega)))
def RetDice (w : World) (e : Ending) (w' : World) : Prop := ∃ A C1 C2 C3 S1 S2 S3 S4, e = .returned (.agg #[.slice A 3 3]) ∧ Lst w' A 3 (dSt C1 C2 C3 S1 S2 S3 S4) ∧ Below w.heap.size w w'
theorem dice_any (w : World) : Calls Tryz.prog 44 #[] w (RetDice w) := by
  go_enter Tryz.func44, Tryz.ntmps44
  go_wp2_with fail
  generalize hX : w.alloc _ = X
  have HX : Hid (Below w.heap.size w X) := by rw [← hX]; exact below_alloc _ _
  have K0 : Hid (Bk X w.heap.size 24 #[.slice none 0 0]) := by rw [← hX]; exact Bk.new _ _ _
  clear hX
  (with_reducible refine (lnum_any _ _ _).mono ?_)
  rintro e w1 ⟨rfl, hB⟩
  have HX1 := Lib.hid (HX.out.trans (hB.mono HX.out.size))
  have K0_1 := Lib.hid (K0.out.keep hB)
  clear hB HX K0
  go_wp2_with fail
  (with_reducible refine (lnum_any _ _ _).mono ?_)
  rintro e w2 ⟨rfl, hB⟩
  have HX2 := Lib.hid (HX1.out.trans (hB.mono HX1.out.size))
  have K0_2 := Lib.hid (K0_1.out.keep hB)
  clear hB HX1 K0_1
  go_wp2_with fail
  (with_reducible refine (lnum_any _ _ _).mono ?_)
  rintro e w3 ⟨rfl, hB⟩
  have HX3 := Lib.hid (HX2.out.trans (hB.mono HX2.out.size))
  have K0_3 := Lib.hid (K0_2.out.keep hB)
  clear hB HX2 K0_2
  go_wp2_with fail
  generalize hY : w3.alloc _ = w4
  have HX4 : Hid (Below w.heap.size w w4) := by rw [← hY]; exact Lib.hid (HX3.out.trans ((below_alloc w3 _).mono HX3.out.size))
  have K0_4 : Hid (Bk w4 w.heap.size 24 #[.slice none 0 0]) := by rw [← hY]; exact Lib.hid (K0_3.out.keep (below_alloc _ _))
  have S1_4 : Hid (Bk w4 (w3.heap.size) 74 #[.int .i64 1, .int .i64 2, .int .i64 3, .int .i64 2, .int .i64 1, .int .i64 3]) := by rw [← hY]; exact Lib.hid (Bk.new_ _ _ _ (rfl))
  have Zw4 : Hid (w4.heap.size = w3.heap.size + 1) := Lib.hid ((congrArg (fun x => x.heap.size) hY.symm).trans ((size_alloc _ _).trans (congrArg (· + 1) (rfl))))
  have NS1 : Hid (w.heap.size < w3.heap.size) := Lib.hid (Nat.lt_of_lt_of_eq (lt_of_heap K0_3.out) (rfl))
  clear hY HX3 K0_3
  (with_reducible refine (lnum_any _ _ _).mono ?_)
  rintro e w5 ⟨rfl, hB⟩
  have HX5 := Lib.hid (HX4.out.trans (hB.mono HX4.out.size))
  have K0_5 := Lib.hid (K0_4.out.keep hB)
  have S1_5 := Lib.hid (S1_4.out.keep hB)
  clear hB HX4 K0_4 S1_4
  go_wp2_with fail
  (with_reducible refine (lnum_any _ _ _).mono ?_)
  rintro e w6 ⟨rfl, hB⟩
  have HX6 := Lib.hid (HX5.out.trans (hB.mono HX5.out.size))
  have K0_6 := Lib.hid (K0_5.out.keep hB)
  have S1_6 := Lib.hid (S1_5.out.keep hB)
  clear hB HX5 K0_5 S1_5
  go_wp2_with fail
  (with_reducible refine (lnum_any _ _ _).mono ?_)
  rintro e w7 ⟨rfl, hB⟩
  have HX7 := Lib.hid (HX6.out.trans (hB.mono HX6.out.size))
  have K0_7 := Lib.hid (K0_6.out.keep hB)
  have S1_7 := Lib.hid (S1_6.out.keep hB)
  clear hB HX6 K0_6 S1_6
  go_wp2_with fail
  (with_reducible refine (lnum_any _ _ _).mono ?_)
  rintro e w8 ⟨rfl, hB⟩
  have HX8 := Lib.hid (HX7.out.trans (hB.mono HX7.out.size))
  have K0_8 := Lib.hid (K0_7.out.keep hB)
  have S1_8 := Lib.hid (S1_7.out.keep hB)
  clear hB HX7 K0_7 S1_7
  go_wp2_with fail
  generalize hY : w8.alloc _ = w9
  have HX9 : Hid (Below w.heap.size w w9) := by rw [← hY]; exact Lib.hid (HX8.out.trans ((below_alloc w8 _).mono HX8.out.size))
  have K0_9 : Hid (Bk w9 w.heap.size 24 #[.slice none 0 0]) := by rw [← hY]; exact Lib.hid (K0_8.out.keep (below_alloc _ _))
  have S1_9 : Hid (Bk w9 (w3.heap.size) 74 #[.int .i64 1, .int .i64 2, .int .i64 3, .int .i64 2, .int .i64 1, .int .i64 3]) := by rw [← hY]; exact Lib.hid (S1_8.out.keep (below_alloc _ _))
  have S2_9 : Hid (Bk w9 (w8.heap.size) 74 #[.int .i64 0, .int .i64 1, .int .i64 2, .int .i64 1, .int .i64 1, .int .i64 4, .int .i64 2, .int .i64 1, .int .i64 4]) := by rw [← hY]; exact Lib.hid (Bk.new_ _ _ _ (rfl))
  have Zw9 : Hid (w9.heap.size = w8.heap.size + 1) := Lib.hid ((congrArg (fun x => x.heap.size) hY.symm).trans ((size_alloc _ _).trans (congrArg (· + 1) (rfl))))
  have NS2 : Hid (w.heap.size < w8.heap.size) := Lib.hid (Nat.lt_of_lt_of_eq (lt_of_heap K0_8.out) (rfl))
  clear hY HX8 K0_8 S1_8
  generalize hY : w9.alloc _ = w10
  have HX10 : Hid (Below w.heap.size w w10) := by rw [← hY]; exact Lib.hid (HX9.out.trans ((below_alloc w9 _).mono HX9.out.size))
  have K0_10 : Hid (Bk w10 w.heap.size 24 #[.slice none 0 0]) := by rw [← hY]; exact Lib.hid (K0_9.out.keep (below_alloc _ _))
  have S1_10 : Hid (Bk w10 (w3.heap.size) 74 #[.int .i64 1, .int .i64 2, .int .i64 3, .int .i64 2, .int .i64 1, .int .i64 3]) := by rw [← hY]; exact Lib.hid (S1_9.out.keep (below_alloc _ _))
  have S2_10 : Hid (Bk w10 (w8.heap.size) 74 #[.int .i64 0, .int .i64 1, .int .i64 2, .int .i64 1, .int .i64 1, .int .i64 4, .int .i64 2, .int .i64 1, .int .i64 4]) := by rw [← hY]; exact Lib.hid (S2_9.out.keep (below_alloc _ _))
  have C1_10 : Hid (Bk w10 (w8.heap.size + 1) 65 #[.int .i64 0, .int .i64 1, .slice (some { block := w3.heap.size, off := 0 }) 2 2, .int .i64 0, .int .i64 1, .slice (some { block := w8.heap.size, off := 0 }) 3 3]) := by rw [← hY]; exact Lib.hid (Bk.new_ _ _ _ (Zw9.out.symm))
  have Zw10 : Hid (w10.heap.size = w8.heap.size + 1 + 1) := Lib.hid ((congrArg (fun x => x.heap.size) hY.symm).trans ((size_alloc _ _).trans (congrArg (· + 1) (Zw9.out))))
  have NC1 : Hid (w.heap.size < w8.heap.size + 1) := Lib.hid (Nat.lt_of_lt_of_eq (lt_of_heap K0_9.out) (Zw9.out))
  clear hY HX9 K0_9 S1_9 S2_9
  (with_reducible refine (lnum_any _ _ _).mono ?_)
  rintro e w11 ⟨rfl, hB⟩
  have HX11 := Lib.hid (HX10.out.trans (hB.mono HX10.out.size))
  have K0_11 := Lib.hid (K0_10.out.keep hB)
  have S1_11 := Lib.hid (S1_10.out.keep hB)
  have S2_11 := Lib.hid (S2_10.out.keep hB)
  have C1_11 := Lib.hid (C1_10.out.keep hB)
  clear hB HX10 K0_10 S1_10 S2_10 C1_10
  go_wp2_with fail
  (with_reducible refine (lnum_any _ _ _).mono ?_)
  rintro e w12 ⟨rfl, hB⟩
  have HX12 := Lib.hid (HX11.out.trans (hB.mono HX11.out.size))
  have K0_12 := Lib.hid (K0_11.out.keep hB)
  have S1_12 := Lib.hid (S1_11.out.keep hB)
  have S2_12 := Lib.hid (S2_11.out.keep hB)
  have C1_12 := Lib.hid (C1_11.out.keep hB)
  clear hB HX11 K0_11 S1_11 S2_11 C1_11
  go_wp2_with fail
  generalize hY : w12.alloc _ = w13
  have HX13 : Hid (Below w.heap.size w w13) := by rw [← hY]; exact Lib.hid (HX12.out.trans ((below_alloc w12 _).mono HX12.out.size))
  have K0_13 : Hid (Bk w13 w.heap.size 24 #[.slice none 0 0]) := by rw [← hY]; exact Lib.hid (K0_12.out.keep (below_alloc _ _))
  have S1_13 : Hid (Bk w13 (w3.heap.size) 74 #[.int .i64 1, .int .i64 2, .int .i64 3, .int .i64 2, .int .i64 1, .int .i64 3]) := by rw [← hY]; exact Lib.hid (S1_12.out.keep (below_alloc _ _))
  have S2_13 : Hid (Bk w13 (w8.heap.size) 74 #[.int .i64 0, .int .i64 1, .int .i64 2, .int .i64 1, .int .i64 1, .int .i64 4, .int .i64 2, .int .i64 1, .int .i64 4]) := by rw [← hY]; exact Lib.hid (S2_12.out.keep (below_alloc _ _))
  have C1_13 : Hid (Bk w13 (w8.heap.size + 1) 65 #[.int .i64 0, .int .i64 1, .slice (some { block := w3.heap.size, off := 0 }) 2 2, .int .i64 0, .int .i64 1, .slice (some { block := w8.heap.size, off := 0 }) 3 3]) := by rw [← hY]; exact Lib.hid (C1_12.out.keep (below_alloc _ _))
  have S3_13 : Hid (Bk w13 (w12.heap.size) 74 #[.int .i64 1, .int .i64 1, .int .i64 1]) := by rw [← hY]; exact Lib.hid (Bk.new_ _ _ _ (rfl))
  have Zw13 : Hid (w13.heap.size = w12.heap.size + 1) := Lib.hid ((congrArg (fun x => x.heap.size) hY.symm).trans ((size_alloc _ _).trans (congrArg (· + 1) (rfl))))
  have NS3 : Hid (w.heap.size < w12.heap.size) := Lib.hid (Nat.lt_of_lt_of_eq (lt_of_heap K0_12.out) (rfl))
  clear hY HX12 K0_12 S1_12 S2_12 C1_12
  generalize hY : w13.alloc _ = w14
  have HX14 : Hid (Below w.heap.size w w14) := by rw [← hY]; exact Lib.hid (HX13.out.trans ((below_alloc w13 _).mono HX13.out.size))
  have K0_14 : Hid (Bk w14 w.heap.size 24 #[.slice none 0 0]) := by rw [← hY]; exact Lib.hid (K0_13.out.keep (below_alloc _ _))
  have S1_14 : Hid (Bk w14 (w3.heap.size) 74 #[.int .i64 1, .int .i64 2, .int .i64 3, .int .i64 2, .int .i64 1, .int .i64 3]) := by rw [← hY]; exact Lib.hid (S1_13.out.keep (below_alloc _ _))
  have S2_14 : Hid (Bk w14 (w8.heap.size) 74 #[.int .i64 0, .int .i64 1, .int .i64 2, .int .i64 1, .int .i64 1, .int .i64 4, .int .i64 2, .int .i64 1, .int .i64 4]) := by rw [← hY]; exact Lib.hid (S2_13.out.keep (below_alloc _ _))
  have C1_14 : Hid (Bk w14 (w8.heap.size + 1) 65 #[.int .i64 0, .int .i64 1, .slice (some { block := w3.heap.size, off := 0 }) 2 2, .int .i64 0, .int .i64 1, .slice (some { block := w8.heap.size, off := 0 }) 3 3]) := by rw [← hY]; exact Lib.hid (C1_13.out.keep (below_alloc _ _))
  have S3_14 : Hid (Bk w14 (w12.heap.size) 74 #[.int .i64 1, .int .i64 1, .int .i64 1]) := by rw [← hY]; exact Lib.hid (S3_13.out.keep (below_alloc _ _))
  have C2_14 : Hid (Bk w14 (w12.heap.size + 1) 65 #[.int .i64 0, .int .i64 1, .slice (some { block := w12.heap.size, off := 0 }) 1 1]) := by rw [← hY]; exact Lib.hid (Bk.new_ _ _ _ (Zw13.out.symm))
  have Zw14 : Hid (w14.heap.size = w12.heap.size + 1 + 1) := Lib.hid ((congrArg (fun x => x.heap.size) hY.symm).trans ((size_alloc _ _).trans (congrArg (· + 1) (Zw13.out))))
  have NC2 : Hid (w.heap.size < w12.heap.size + 1) := Lib.hid (Nat.lt_of_lt_of_eq (lt_of_heap K0_13.out) (Zw13.out))
  clear hY HX13 K0_13 S1_13 S2_13 C1_13 S3_13
  (with_reducible refine (lnum_any _ _ _).mono ?_)
  rintro e w15 ⟨rfl, hB⟩
  have HX15 := Lib.hid (HX14.out.trans (hB.mono HX14.out.size))
  have K0_15 := Lib.hid (K0_14.out.keep hB)
  have S1_15 := Lib.hid (S1_14.out.keep hB)
  have S2_15 := Lib.hid (S2_14.out.keep hB)
  have C1_15 := Lib.hid (C1_14.out.keep hB)
  have S3_15 := Lib.hid (S3_14.out.keep hB)
  have C2_15 := Lib.hid (C2_14.out.keep hB)
  clear hB HX14 K0_14 S1_14 S2_14 C1_14 S3_14 C2_14
  go_wp2_with fail
  (with_reducible refine (lnum_any _ _ _).mono ?_)
  rintro e w16 ⟨rfl, hB⟩
  have HX16 := Lib.hid (HX15.out.trans (hB.mono HX15.out.size))
  have K0_16 := Lib.hid (K0_15.out.keep hB)
  have S1_16 := Lib.hid (S1_15.out.keep hB)
  have S2_16 := Lib.hid (S2_15.out.keep hB)
  have C1_16 := Lib.hid (C1_15.out.keep hB)
  have S3_16 := Lib.hid (S3_15.out.keep hB)
  have C2_16 := Lib.hid (C2_15.out.keep hB)
  clear hB HX15 K0_15 S1_15 S2_15 C1_15 S3_15 C2_15
  have q4 : Bk (((w16.alloc (.cells #[.int .i64 2, .int .i64 1, .int .i64 1] 74)).alloc (.cells #[.int .i64 0, .int .i64 1, .slice (some { block := w16.heap.size, off := 0 }) 1 1] 65)).alloc (.cells #[.int .i64 0, .int .i64 0, .slice (some { block := w8.heap.size + 1, off := 0 }) 2 2, .int .i64 0, .int .i64 0, .slice (some { block := w12.heap.size + 1, off := 0 }) 1 1, .int .i64 0, .int .i64 1, .slice (some { block := w16.heap.size + 1, off := 0 }) 1 1] 53)) w.heap.size 24 #[.slice none 0 0] := ((K0_16.out.keep (below_alloc _ _)).keep (below_alloc _ _)).keep (below_alloc _ _)
  have q1 := q4.cell1
  have q3 := q4.frozen
  unfold Bk at q4
  go_wp2_with fail
  clear q1 q3 q4
  generalize hY : w16.alloc _ = w17
  have HX17 : Hid (Below w.heap.size w w17) := by rw [← hY]; exact Lib.hid (HX16.out.trans ((below_alloc w16 _).mono HX16.out.size))
  have K0_17 : Hid (Bk w17 w.heap.size 24 #[.slice none 0 0]) := by rw [← hY]; exact Lib.hid (K0_16.out.keep (below_alloc _ _))
  have S1_17 : Hid (Bk w17 (w3.heap.size) 74 #[.int .i64 1, .int .i64 2, .int .i64 3, .int .i64 2, .int .i64 1, .int .i64 3]) := by rw [← hY]; exact Lib.hid (S1_16.out.keep (below_alloc _ _))
  have S2_17 : Hid (Bk w17 (w8.heap.size) 74 #[.int .i64 0, .int .i64 1, .int .i64 2, .int .i64 1, .int .i64 1, .int .i64 4, .int .i64 2, .int .i64 1, .int .i64 4]) := by rw [← hY]; exact Lib.hid (S2_16.out.keep (below_alloc _ _))
  have C1_17 : Hid (Bk w17 (w8.heap.size + 1) 65 #[.int .i64 0, .int .i64 1, .slice (some { block := w3.heap.size, off := 0 }) 2 2, .int .i64 0, .int .i64 1, .slice (some { block := w8.heap.size, off := 0 }) 3 3]) := by rw [← hY]; exact Lib.hid (C1_16.out.keep (below_alloc _ _))
  have S3_17 : Hid (Bk w17 (w12.heap.size) 74 #[.int .i64 1, .int .i64 1, .int .i64 1]) := by rw [← hY]; exact Lib.hid (S3_16.out.keep (below_alloc _ _))
  have C2_17 : Hid (Bk w17 (w12.heap.size + 1) 65 #[.int .i64 0, .int .i64 1, .slice (some { block := w12.heap.size, off := 0 }) 1 1]) := by rw [← hY]; exact Lib.hid (C2_16.out.keep (below_alloc _ _))
  have S4_17 : Hid (Bk w17 (w16.heap.size) 74 #[.int .i64 2, .int .i64 1, .int .i64 1]) := by rw [← hY]; exact Lib.hid (Bk.new_ _ _ _ (rfl))
  have Zw17 : Hid (w17.heap.size = w16.heap.size + 1) := Lib.hid ((congrArg (fun x => x.heap.size) hY.symm).trans ((size_alloc _ _).trans (congrArg (· + 1) (rfl))))
  have NS4 : Hid (w.heap.size < w16.heap.size) := Lib.hid (Nat.lt_of_lt_of_eq (lt_of_heap K0_16.out) (rfl))
  clear hY HX16 K0_16 S1_16 S2_16 C1_16 S3_16 C2_16
  generalize hY : w17.alloc _ = w18
  have HX18 : Hid (Below w.heap.size w w18) := by rw [← hY]; exact Lib.hid (HX17.out.trans ((below_alloc w17 _).mono HX17.out.size))
  have K0_18 : Hid (Bk w18 w.heap.size 24 #[.slice none 0 0]) := by rw [← hY]; exact Lib.hid (K0_17.out.keep (below_alloc _ _))
  have S1_18 : Hid (Bk w18 (w3.heap.size) 74 #[.int .i64 1, .int .i64 2, .int .i64 3, .int .i64 2, .int .i64 1, .int .i64 3]) := by rw [← hY]; exact Lib.hid (S1_17.out.keep (below_alloc _ _))
  have S2_18 : Hid (Bk w18 (w8.heap.size) 74 #[.int .i64 0, .int .i64 1, .int .i64 2, .int .i64 1, .int .i64 1, .int .i64 4, .int .i64 2, .int .i64 1, .int .i64 4]) := by rw [← hY]; exact Lib.hid (S2_17.out.keep (below_alloc _ _))
  have C1_18 : Hid (Bk w18 (w8.heap.size + 1) 65 #[.int .i64 0, .int .i64 1, .slice (some { block := w3.heap.size, off := 0 }) 2 2, .int .i64 0, .int .i64 1, .slice (some { block := w8.heap.size, off := 0 }) 3 3]) := by rw [← hY]; exact Lib.hid (C1_17.out.keep (below_alloc _ _))
  have S3_18 : Hid (Bk w18 (w12.heap.size) 74 #[.int .i64 1, .int .i64 1, .int .i64 1]) := by rw [← hY]; exact Lib.hid (S3_17.out.keep (below_alloc _ _))
  have C2_18 : Hid (Bk w18 (w12.heap.size + 1) 65 #[.int .i64 0, .int .i64 1, .slice (some { block := w12.heap.size, off := 0 }) 1 1]) := by rw [← hY]; exact Lib.hid (C2_17.out.keep (below_alloc _ _))
  have S4_18 : Hid (Bk w18 (w16.heap.size) 74 #[.int .i64 2, .int .i64 1, .int .i64 1]) := by rw [← hY]; exact Lib.hid (S4_17.out.keep (below_alloc _ _))
  have C3_18 : Hid (Bk w18 (w16.heap.size + 1) 65 #[.int .i64 0, .int .i64 1, .slice (some { block := w16.heap.size, off := 0 }) 1 1]) := by rw [← hY]; exact Lib.hid (Bk.new_ _ _ _ (Zw17.out.symm))
  have Zw18 : Hid (w18.heap.size = w16.heap.size + 1 + 1) := Lib.hid ((congrArg (fun x => x.heap.size) hY.symm).trans ((size_alloc _ _).trans (congrArg (· + 1) (Zw17.out))))
  have NC3 : Hid (w.heap.size < w16.heap.size + 1) := Lib.hid (Nat.lt_of_lt_of_eq (lt_of_heap K0_17.out) (Zw17.out))
  clear hY HX17 K0_17 S1_17 S2_17 C1_17 S3_17 C2_17 S4_17
  generalize hY : w18.alloc _ = w19
  have HX19 : Hid (Below w.heap.size w w19) := by rw [← hY]; exact Lib.hid (HX18.out.trans ((below_alloc w18 _).mono HX18.out.size))
  have K0_19 : Hid (Bk w19 w.heap.size 24 #[.slice none 0 0]) := by rw [← hY]; exact Lib.hid (K0_18.out.keep (below_alloc _ _))
  have S1_19 : Hid (Bk w19 (w3.heap.size) 74 #[.int .i64 1, .int .i64 2, .int .i64 3, .int .i64 2, .int .i64 1, .int .i64 3]) := by rw [← hY]; exact Lib.hid (S1_18.out.keep (below_alloc _ _))
  have S2_19 : Hid (Bk w19 (w8.heap.size) 74 #[.int .i64 0, .int .i64 1, .int .i64 2, .int .i64 1, .int .i64 1, .int .i64 4, .int .i64 2, .int .i64 1, .int .i64 4]) := by rw [← hY]; exact Lib.hid (S2_18.out.keep (below_alloc _ _))
  have C1_19 : Hid (Bk w19 (w8.heap.size + 1) 65 #[.int .i64 0, .int .i64 1, .slice (some { block := w3.heap.size, off := 0 }) 2 2, .int .i64 0, .int .i64 1, .slice (some { block := w8.heap.size, off := 0 }) 3 3]) := by rw [← hY]; exact Lib.hid (C1_18.out.keep (below_alloc _ _))
  have S3_19 : Hid (Bk w19 (w12.heap.size) 74 #[.int .i64 1, .int .i64 1, .int .i64 1]) := by rw [← hY]; exact Lib.hid (S3_18.out.keep (below_alloc _ _))
  have C2_19 : Hid (Bk w19 (w12.heap.size + 1) 65 #[.int .i64 0, .int .i64 1, .slice (some { block := w12.heap.size, off := 0 }) 1 1]) := by rw [← hY]; exact Lib.hid (C2_18.out.keep (below_alloc _ _))
  have S4_19 : Hid (Bk w19 (w16.heap.size) 74 #[.int .i64 2, .int .i64 1, .int .i64 1]) := by rw [← hY]; exact Lib.hid (S4_18.out.keep (below_alloc _ _))
  have C3_19 : Hid (Bk w19 (w16.heap.size + 1) 65 #[.int .i64 0, .int .i64 1, .slice (some { block := w16.heap.size, off := 0 }) 1 1]) := by rw [← hY]; exact Lib.hid (C3_18.out.keep (below_alloc _ _))
  have ST_19 : Hid (Bk w19 (w16.heap.size + 1 + 1) 53 #[.int .i64 0, .int .i64 0, .slice (some { block := w8.heap.size + 1, off := 0 }) 2 2, .int .i64 0, .int .i64 0, .slice (some { block := w12.heap.size + 1, off := 0 }) 1 1, .int .i64 0, .int .i64 1, .slice (some { block := w16.heap.size + 1, off := 0 }) 1 1]) := by rw [← hY]; exact Lib.hid (Bk.new_ _ _ _ (Zw18.out.symm))
  have Zw19 : Hid (w19.heap.size = w16.heap.size + 1 + 1 + 1) := Lib.hid ((congrArg (fun x => x.heap.size) hY.symm).trans ((size_alloc _ _).trans (congrArg (· + 1) (Zw18.out))))
  have NST : Hid (w.heap.size < w16.heap.size + 1 + 1) := Lib.hid (Nat.lt_of_lt_of_eq (lt_of_heap K0_18.out) (Zw18.out))
  clear hY HX18 K0_18 S1_18 S2_18 C1_18 S3_18 C2_18 S4_18 C3_18
  obtain ⟨q1, q4⟩ := K0_19.out.put (v := .slice (some { block := w16.heap.size + 1 + 1, off := 0 }) 3 3)
  unfold Bk at q4
  exact bodyPost_ret (v := .agg #[.slice (some { block := w16.heap.size + 1 + 1, off := 0 }) 3 3]) (by simp [results, Tryz.results44, go_sem, *]) rfl ⟨some ⟨w16.heap.size + 1 + 1, 0, none⟩, some ⟨w8.heap.size + 1, 0, none⟩, some ⟨w12.heap.size + 1, 0, none⟩, some ⟨w16.heap.size + 1, 0, none⟩, some ⟨w3.heap.size, 0, none⟩, some ⟨w8.heap.size, 0, none⟩, some ⟨w12.heap.size, 0, none⟩, some ⟨w16.heap.size, 0, none⟩, rfl, dSt_of (S1_19.out.far NS1.out _ _) (S2_19.out.far NS2.out _ _) (S3_19.out.far NS3.out _ _) (S4_19.out.far NS4.out _ _) (C1_19.out.far NC1.out _ _) (C2_19.out.far NC2.out _ _) (C3_19.out.far NC3.out _ _) (ST_19.out.far NST.out _ _), HX19.out.setCell (Nat.le_refl _) _⟩
def Lin (w : World) (A : Option Addr) (n : Nat) (f : Nat → Int) : Prop := 0 < n → ∃ b off, A = some ⟨b, off, none⟩ ∧ b < w.heap.size ∧ ∀ i, i < n → w.cell? ⟨b, off + i, none⟩ = some (.int .i64 (f i))
theorem Lin.keep {w w' : World} {A : Option Addr} {n : Nat} {f : Nat → Int} (h : Lin w A n f) (hb : Below w.heap.size w w') : Lin w' A n f := by
  intro hn
  obtain ⟨b, off, hA, hlt, hc⟩ := h hn
  exact ⟨b, off, hA, Nat.lt_of_lt_of_le hlt hb.size, fun i hi => (hb.cell (p := ⟨b, off + i, none⟩) hlt).trans (hc i hi)⟩
end Go.Proofs.YtmfnpipmbpnfbaaGreatDoor
