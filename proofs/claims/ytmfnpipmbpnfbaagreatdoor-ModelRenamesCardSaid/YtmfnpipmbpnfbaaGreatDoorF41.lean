/- slices.Repeat of one whole number. -/
import Derived.Test.YtmfnpipmbpnfbaaGreatDoorF27
import Derived.Test.YtmfnpipmbpnfbaaGreatDoorF40
import Derived.Test.YtmfnpipmbpnfbaaGreatDoorF39
import Derived.Lib.SliceRun
import Derived.Test.YtmfnpipmbpnfbaaGreatDoorF21
import Derived.Test.YtmfnpipmbpnfbaaGreatDoorF33
import Derived.Test.YtmfnpipmbpnfbaaGreatDoorF35

set_option maxRecDepth 100000
set_option maxHeartbeats 40000000
namespace Go.Proofs.YtmfnpipmbpnfbaaGreatDoor
open Go.RowKit
def cz (n : Nat) (f : Nat → Int) : List Value := (List.range n).map fun j => .int .i64 (f j)
theorem cz_len (n : Nat) (f : Nat → Int) : (cz n f).length = n := by simp [cz]
theorem cz_get {n : Nat} {f : Nat → Int} {j : Nat} {u : Value} (h : (cz n f)[j]? = some u) : j < n ∧ u = .int .i64 (f j) := by
  unfold cz at h
  rw [List.getElem?_map] at h
  rcases Nat.lt_or_ge j n with g | g
  · rw [List.getElem?_range g] at h
    exact ⟨g, (Option.some.inj h).symm⟩
  · rw [List.getElem?_eq_none (by simpa using g)] at h
    cases h
theorem cz_at {n j : Nat} (f : Nat → Int) (h : j < n) : (cz n f)[j]? = some (.int .i64 (f j)) := by
  unfold cz
  rw [List.getElem?_map, List.getElem?_range h]
  rfl
theorem cz_one (n : Nat) (f : Nat → Int) : ∀ u ∈ cz n f, u.oneCell' = true := by
  intro u hu
  unfold cz at hu
  obtain ⟨j, -, rfl⟩ := List.mem_map.1 hu
  rfl
theorem cz_congr {n : Nat} {f f' : Nat → Int} (h : ∀ i, i < n → f i = f' i) : cz n f = cz n f' := by
  unfold cz
  refine List.map_congr_left fun j hj => ?_
  rw [h j (List.mem_range.1 hj)]
def Rz (w : World) (g n : Nat) (f : Nat → Int) : Prop := w.heap[g]? = some (.cells (cz n f).toArray 3 (0, 0))
theorem Rz.cellAt {w : World} {g n : Nat} {f : Nat → Int} (h : Rz w g n f) {j : Nat} {u : Value} (hu : (cz n f)[j]? = some u) : w.cell? ⟨g, j, none⟩ = some u := by
  have hh : w.heap[g]? = some (.cells (cz n f).toArray 3 (0, 0)) := h
  unfold World.cell?
  simp [hh, hu]
theorem Rz.rowz {w : World} {g n : Nat} {f : Nat → Int} (h : Rz w g n f) : RowZ w g n f := ⟨_, h, by simp [cz_len], fun i hi => by simpa using cz_at f hi⟩
theorem madez (n : Nat) : madeCells #[.int .i64 0] n = (cz n (fun _ => 0)).toArray := by
  apply Array.ext'
  apply List.ext_getElem?
  intro j
  rcases Nat.lt_or_ge j n with h | h
  · rw [show (cz n (fun _ => 0)).toArray.toList[j]? = some (.int .i64 0) from cz_at _ h]
    simp [madeCells, h, Nat.mod_one]
  · rw [List.getElem?_eq_none (by rw [Array.length_toList, size_madeCells]; exact h), List.getElem?_eq_none (by simpa [cz_len] using h)]
theorem make_iz (n : Nat) (h : n ≤ 4000000) (w : World) : (Instr.makeSlice 25 (.int .i64 (n : Int)) (.int .i64 (n : Int))).run Tryz.prog w = .ok (.slice (some ⟨w.heap.size, 0, none⟩) n n) (w.alloc (.cells (cz n (fun _ => 0)).toArray 3)) := by
  rw [make_ints n h w, madez]
theorem Rz.new (w : World) (n : Nat) : Rz (w.alloc (.cells (cz n (fun _ => 0)).toArray 3)) w.heap.size n (fun _ => 0) := heap_alloc_new w _
theorem cz_splice (n k m : Nat) (f f' : Nat → Int) (h : k + m ≤ n) : (cz n f).take k ++ cz m f' ++ (cz n f).drop (k + m) = cz n (fun i => if k ≤ i ∧ i < k + m then f' (i - k) else f i) := by
  apply List.ext_getElem?
  intro j
  have hlen1 : ((cz n f).take k).length = k := by rw [List.length_take, cz_len]; omega
  rcases Nat.lt_or_ge j n with hj | hj
  · rw [cz_at _ hj, List.append_assoc]
    rcases Nat.lt_or_ge j k with h1 | h1
    · rw [List.getElem?_append_left (by rw [hlen1]; exact h1), List.getElem?_take_of_lt h1, cz_at _ hj, if_neg (by omega)]
    · rw [List.getElem?_append_right (by rw [hlen1]; exact h1), hlen1]
      rcases Nat.lt_or_ge j (k + m) with h2 | h2
      · rw [List.getElem?_append_left (by rw [cz_len]; omega), cz_at _ (by omega), if_pos (by omega)]
      · rw [List.getElem?_append_right (by rw [cz_len]; omega), List.getElem?_drop, cz_len, show k + m + (j - k - m) = j from by omega, cz_at _ hj, if_neg (by omega)]
  · rw [List.getElem?_eq_none (by simp only [List.length_append, List.length_drop, cz_len, hlen1]; omega), List.getElem?_eq_none (by rw [cz_len]; exact hj)]
theorem info_openz {T : Nat} {z : Value} {s b : Nat} (h : (Tryz.prog.info? T).map (fun i => (i.zero, i.size, i.bytes)) = some (some z, s, b)) : ∃ i, Tryz.prog.info? T = some i ∧ i.zero = some z ∧ i.size = s ∧ i.bytes = b := by
  cases hi : Tryz.prog.info? T with
  | none => rw [hi] at h; cases h
  | some i =>
    rw [hi] at h
    simp only [Option.map_some, Option.some.injEq, Prod.mk.injEq] at h
    exact ⟨i, rfl, h.1, h.2.1, h.2.2⟩
theorem run_copyz (w : World) (ty g k dLen dCap n m : Nat) (a : Addr) (sLen sCap : Nat) (f f' : Nat → Int) (h : Rz w g n f) (hm : m = Nat.min sLen dLen) (hk : k + m ≤ n)
    (hsrc : ∀ j v, (cz m f')[j]? = some v → w.cell? (a.add j) = some v) :
    (Builtin.copy_ #[25, 25] ty #[.slice (some ⟨g, k, none⟩) dLen dCap, .slice (some a) sLen sCap]).run Tryz.prog w =
      .ok (.int .i64 (m : Int)) (w.setRow g (cz n (fun i => if k ≤ i ∧ i < k + m then f' (i - k) else f i)).toArray) := by
  have hh : w.heap[g]? = some (.cells (cz n f).toArray 3 (0, 0)) := h
  have hl := run_loadCells_list (P := Tryz.prog) w a (cz m f') hsrc
  have hst := run_storeCells_at Tryz.prog g k 3 (cz m f') 0 (cz n f).toArray w hh (by simp only [cz_len, List.size_toArray]; omega) (cz_one m f')
  rw [cz_len] at hl hst
  simp only [Nat.add_zero] at hst
  rw [cz_splice n k m f f' hk] at hst
  obtain ⟨i, hi, hz, hs, hb⟩ := info_openz infoInt
  subst hm
  simp [Builtin.copy_, run_underlying Tryz.underlying25, Builtin.lenOf, Builtin.firstCells, sizeOf, typeInfo, hi, hs, hl, hst, goInt]
theorem mul64_z (n : Nat) (hn : n ≤ 40) (w : World) : Calls Tryz.prog 160 #[.int .u64 1, .int .u64 (n : Int)] w fun e w' => e = .returned (.tuple #[.int .u64 0, .int .u64 (n : Int)]) ∧ w = w' := by
  rcases (by omega : n = 0 ∨ n = 1 ∨ n = 2 ∨ n = 3 ∨ n = 4 ∨ n = 5 ∨ n = 6 ∨ n = 7 ∨ n = 8 ∨ n = 9 ∨ n = 10 ∨ n = 11 ∨ n = 12 ∨ n = 13 ∨ n = 14 ∨ n = 15 ∨ n = 16 ∨ n = 17 ∨ n = 18 ∨ n = 19 ∨ n = 20 ∨ n = 21 ∨ n = 22 ∨ n = 23 ∨ n = 24 ∨ n = 25 ∨ n = 26 ∨ n = 27 ∨ n = 28 ∨ n = 29 ∨ n = 30 ∨ n = 31 ∨ n = 32 ∨ n = 33 ∨ n = 34 ∨ n = 35 ∨ n = 36 ∨ n = 37 ∨ n = 38 ∨ n = 39 ∨ n = 40) with rfl | rfl | rfl | rfl | rfl | rfl | rfl | rfl | rfl | rfl | rfl | rfl | rfl | rfl | rfl | rfl | rfl | rfl | rfl | rfl | rfl | rfl | rfl | rfl | rfl | rfl | rfl | rfl | rfl | rfl | rfl | rfl | rfl | rfl | rfl | rfl | rfl | rfl | rfl | rfl | rfl
  all_goals
    go_enter Tryz.func160, Tryz.ntmps160
    go_wp2_with fail
    go_ret2
    exact ⟨rfl, rfl⟩
theorem mul_z (n : Nat) (hn : n ≤ 40) (w : World) : Calls Tryz.prog 137 #[.int .u64 1, .int .u64 (n : Int)] w fun e w' => e = .returned (.tuple #[.int .u64 0, .int .u64 (n : Int)]) ∧ w = w' := by
  go_enter Tryz.func137, Tryz.ntmps137
  go_wp2_with fail
  (with_reducible refine (mul64_z n hn _).mono ?_)
  rintro e w1 ⟨rfl, rfl⟩
  go_wp2_with fail
  go_ret2
  exact ⟨rfl, rfl⟩
theorem fillz_step (n k m : Nat) (t : Int) (_hk : k + m ≤ n) : cz n (fun i => if k ≤ i ∧ i < k + m then t else fillF t k i) = cz n (fillF t (k + m)) := by
  refine cz_congr fun i _ => ?_
  unfold fillF
  by_cases h1 : i < k
  · rw [if_neg (by omega), if_pos h1, if_pos (by omega)]
  · by_cases h2 : i < k + m
    · rw [if_pos (by omega), if_pos h2]
    · rw [if_neg (by omega), if_neg h1, if_neg h2]
theorem fillz_zero (n : Nat) (t : Int) : cz n (fun _ => 0) = cz n (fillF t 0) := cz_congr fun i _ => (if_neg (by omega)).symm
theorem run_fillz (w : World) (ty g k n : Nat) (t : Int) (h : Rz w g n (fillF t k)) (hk : k ≤ n) :
    (Builtin.copy_ #[25, 25] ty #[.slice (some ⟨g, k, none⟩) (n - k) (n - k), .slice (some ⟨g, 0, none⟩) k n]).run Tryz.prog w =
      .ok (.int .i64 ((Nat.min k (n - k) : Nat) : Int)) (w.setRow g (cz n (fillF t (k + Nat.min k (n - k)))).toArray) := by
  have hm : Nat.min k (n - k) ≤ k ∧ Nat.min k (n - k) ≤ n - k := ⟨Nat.min_le_left _ _, Nat.min_le_right _ _⟩
  have hr := run_copyz w ty g k (n - k) (n - k) n (Nat.min k (n - k)) ⟨g, 0, none⟩ k n (fillF t k) (fun _ => t) h rfl (by omega) (fun j v hv => by
    obtain ⟨hj, e⟩ := cz_get hv
    have hadd : (⟨g, 0, none⟩ : Addr).add j = ⟨g, j, none⟩ := by unfold Addr.add; split <;> simp_all
    rw [hadd]
    refine h.cellAt ?_
    rw [cz_at _ (by omega), e]
    have h2 : fillF t k j = t := if_pos (by omega)
    rw [h2])
  rw [fillz_step n k _ t (by omega)] at hr
  exact hr
theorem run_fill0z (w : World) (ty g n gx cx : Nat) (t : Int) (h : Rz w g n (fun _ => 0)) (hn : 1 ≤ n) (h0 : w.cell? ⟨gx, 0, none⟩ = some (.int .i64 t)) :
    (Builtin.copy_ #[25, 25] ty #[.slice (some ⟨g, 0, none⟩) n n, .slice (some ⟨gx, 0, none⟩) 1 cx]).run Tryz.prog w =
      .ok (.int .i64 1) (w.setRow g (cz n (fillF t 1)).toArray) := by
  unfold Rz at h
  rw [fillz_zero n t] at h
  have hr := run_copyz w ty g 0 n n n 1 ⟨gx, 0, none⟩ 1 cx (fillF t 0) (fun _ => t) h (Nat.min_eq_left hn).symm (by omega) (fun j v hv => by
    obtain ⟨hj, e⟩ := cz_get hv
    have hadd : (⟨gx, 0, none⟩ : Addr).add j = ⟨gx, j, none⟩ := by unfold Addr.add; split <;> simp_all
    rw [hadd, e]
    obtain rfl : j = 0 := by omega
    exact h0)
  rw [fillz_step n 0 1 t (by omega)] at hr
  exact hr
theorem Rz.row {w : World} {g n : Nat} {t t' : Nat → Int} (h : Rz w g n t) : Rz (w.setRow g (cz n t').toArray) g n t' := setRow_heap w g _ _ _ _ h
theorem Rz.drewN {w : World} {g n : Nat} {t : Nat → Int} (h : Rz w g n t) (q : Nat) : Rz (w.drewN q) g n t := h
def rpW (g n k m : Nat) : Nat → Value
  | 0 => .int .i64 (k : Int)
  | 1 => .slice (some ⟨g, 0, none⟩) n n
  | 2 => .int .i64 (k : Int)
  | 3 => .slice (some ⟨g, k, none⟩) (n - k) (n - k)
  | 4 => .slice (some ⟨g, 0, none⟩) n n
  | 5 => .int .i64 (k : Int)
  | 6 => .slice (some ⟨g, 0, none⟩) k n
  | 7 => .int .i64 (m : Int)
  | _ => .int .i64 ((k + m : Nat) : Int)
def RpW (g n k m : Nat) (wr w2 : World) (b : Nat → Bool) (v : Nat → Value) (wx : World) : Prop :=
  (b 9 = true → ∀ i, i < 9 → b i = true) ∧ (b 9 = false → v 8 = .int .i64 (k : Int)) ∧ (∀ i, i < 9 → b i = true → v (38 + i) = rpW g n k m i) ∧ (b 9 = true → v 8 = .int .i64 ((k + m : Nat) : Int)) ∧ (b 7 = false → ∃ q, wx = wr.drewN q) ∧ (b 7 = true → ∃ q, wx = w2.drewN q)
theorem RpW.put {g n k m i : Nat} {wr w2 wx wy : World} {b : Nat → Bool} {v : Nat → Value} (h : RpW g n k m wr w2 b v wx) (hi : i < 9) (hb : b i = false)
    (hw : (i ≠ 7 ∧ wy = wx) ∨ (i = 7 ∧ ∃ q, wy = w2.drewN q)) {u : Value} (hu : u = rpW g n k m i) : RpW g n k m wr w2 (updB b i) (updV v (38 + i) u) wy := by
  obtain ⟨h1, h2, h3, h4, h5, h6⟩ := h
  have h9 : b 9 = false := by
    cases e : b 9 with
    | false => rfl
    | true => rw [h1 e i hi] at hb; cases hb
  have e9 : updB b i 9 = false := (updB_ne (by omega)).trans h9
  refine ⟨fun h => (by rw [e9] at h; cases h), fun _ => ?_, fun j hj hbj => ?_, fun h => (by rw [e9] at h; cases h), fun h7 => ?_, fun h7 => ?_⟩
  · rw [updV_ne (by omega)]
    exact h2 h9
  · by_cases e : j = i
    · subst e
      rw [updV_eq]
      exact hu
    · rw [updV_ne (by omega)]
      rw [updB_ne e] at hbj
      exact h3 j hj hbj
  · rcases hw with ⟨hne, rfl⟩ | ⟨rfl, hq⟩
    · rw [updB_ne (Ne.symm hne)] at h7
      exact h5 h7
    · rw [updB_eq] at h7
      cases h7
  · rcases hw with ⟨hne, rfl⟩ | ⟨rfl, hq⟩
    · rw [updB_ne (Ne.symm hne)] at h7
      exact h6 h7
    · exact hq
def RepPz (n : Nat) (t : Int) (w : World) (e : Ending) (w' : World) : Prop := ∃ g, e = .returned (.slice (some ⟨g, 0, none⟩) n n) ∧ w.heap.size ≤ g ∧ RowZ w' g n (fun _ => t) ∧ Below w.heap.size w w'
theorem repz_any (gx cx n : Nat) (t : Int) (w : World) (hn1 : 1 ≤ n) (hn : n ≤ 40) (h0 : w.cell? ⟨gx, 0, none⟩ = some (.int .i64 t)) (hx : gx < w.heap.size) :
    Calls Tryz.prog 109 #[.slice (some ⟨gx, 0, none⟩) 1 cx, .int .i64 (n : Int)] w (RepPz n t w) := by
  have H0 := Lib.hid h0
  have b1 : decide ((n : Int) < 0) = false := by simp
  have b2 : decide ((9223372036854775807 : Int) < (n : Int)) = false := by simp; omega
  have hmk := make_iz n (by omega)
  clear h0
  go_enter Tryz.func109, Tryz.ntmps109
  go_wp2_with fail
  (with_reducible refine (mul_z n hn _).mono ?_)
  rintro e w1 ⟨rfl, rfl⟩
  go_upto_region 7 with fail
  generalize hX : w.alloc _ = X
  have HX : Hid (Below w.heap.size w X) := by rw [← hX]; exact below_alloc _ _
  have HR0 : Rz X w.heap.size n (fun _ => 0) := by rw [← hX]; exact Rz.new w n
  have hr := run_fill0z X 3 w.heap.size n gx cx t HR0 hn1 ((HX.out.cell (p := ⟨gx, 0, none⟩) hx).trans H0.out)
  have HR : Hid (Rz (X.setRow w.heap.size (cz n (fillF t 1)).toArray) w.heap.size n (fillF t 1)) := HR0.row
  have HB : Hid (Below w.heap.size w (X.setRow w.heap.size (cz n (fillF t 1)).toArray)) := below_setRow HX.out (Nat.le_refl _) _
  clear hX hmk HR0 b1 b2
  go_wp2_with (with_reducible refine Lib.wpList_copy_run _ rfl (.tmp 31) (.tmp 32) 25 25 rfl _ _ rfl rfl hr ?_)
  clear hr
  generalize X.setRow w.heap.size (cz n (fillF t 1)).toArray = Y at *
  generalize hg : w.heap.size = g at *
  go_loopw [8] (fun i wr => ∃ k : Nat, Hid (1 ≤ k ∧ k ≤ n) ∧ i = .int .i64 (k : Int) ∧ Hid (Rz wr g n (fillF t k)) ∧ Hid (Below g w wr)) (fun i _ => n - (intOf i).toNat)
  case atStart => exact ⟨1, Lib.hid ⟨Nat.le_refl _, hn1⟩, rfl, HR, HB⟩
  case round =>
    clear HR HB
    obtain ⟨k, hk, rfl, hR, hB⟩ := hrel
    obtain ⟨hk1, hk2⟩ := hk.out
    by_cases hlt : k < n
    · have hlt' : (k : Int) < (n : Int) := by omega
      have hm : Nat.min k (n - k) ≤ k ∧ Nat.min k (n - k) ≤ n - k ∧ 1 ≤ Nat.min k (n - k) := ⟨Nat.min_le_left _ _, Nat.min_le_right _ _, Nat.le_min.2 ⟨hk1, by omega⟩⟩
      have hrun := fun q => run_fillz (wr.drewN q) 3 g k n t (hR.out.drewN q) hk2
      generalize Nat.min k (n - k) = m at *
      have HRUN := Lib.hid hrun
      clear hrun
      generalize hw2 : wr.setRow g (cz n (fillF t (k + m))).toArray = w2 at *
      have HR2 : Hid (Rz w2 g n (fillF t (k + m))) := by rw [← hw2]; exact hR.out.row
      have HB2 : Hid (Below g w w2) := by rw [← hw2]; exact below_setRow hB.out (Nat.le_refl _) _
      have HD : Hid (∀ q, (wr.drewN q).setRow g (cz n (fillF t (k + m))).toArray = w2.drewN q) := fun q => by rw [← hw2]; rfl
      clear hw2
      go_upto_region 9 with fail
      refine wp_region_inv3 [38, 39, 40, 41, 42, 43, 44, 45, 46, 8] (RpW g n k m wr w2) (by kernel_rfl) (by kernel_rfl) (by kernel_rfl) ?_ ?_ ?_
      · exact ⟨fun h => Bool.noConfusion h, fun _ => rfl, fun i _ h => Bool.noConfusion h, fun h => Bool.noConfusion h, fun _ => ⟨1, rfl⟩, fun h => Bool.noConfusion h⟩
      · intro i bb v wx o T' K ho hdep hbi hJ hin hout K1 K2
        have hi : i < 10 := (Array.getElem?_eq_some_iff.1 ho).1
        have q8 := hin 8 (by decide)
        have q38 := hin 38 (by decide)
        have q39 := hin 39 (by decide)
        have q40 := hin 40 (by decide)
        have q41 := hin 41 (by decide)
        have q42 := hin 42 (by decide)
        have q43 := hin 43 (by decide)
        have q44 := hin 44 (by decide)
        have q45 := hin 45 (by decide)
        have q46 := hin 46 (by decide)
        have q7 := (hout 7 (by decide)).trans rfl
        have HJ := Lib.hid hJ
        have HDEP := Lib.hid hdep
        have HK1 := Lib.hid K1
        have HBI := Lib.hid hbi
        clear hin hout hJ hdep K1 K2 hbi
        have h9 : i < 9 → bb 9 = false := fun h => by
          cases e : bb 9 with
          | false => rfl
          | true => have h2 := HJ.out.1 e i h; rw [HBI.out] at h2; cases h2
        have H9 := Lib.hid h9
        clear h9
        rcases (by omega : i = 0 ∨ i = 1 ∨ i = 2 ∨ i = 3 ∨ i = 4 ∨ i = 5 ∨ i = 6 ∨ i = 7 ∨ i = 8 ∨ i = 9) with rfl | rfl | rfl | rfl | rfl | rfl | rfl | rfl | rfl | rfl
        · obtain rfl := Option.some.inj ho
          have e8 := HJ.out.2.1 (H9.out (by omega))
          rw [e8] at q8
          clear e8
          clear ho hi
          go_simp
          exact HK1.out 38 _ _ (by decide) (HJ.out.put (i := 0) (by omega) HBI.out (Or.inl ⟨by omega, rfl⟩) rfl)
        · obtain rfl := Option.some.inj ho
          clear ho hi
          go_simp
          exact HK1.out 39 _ _ (by decide) (HJ.out.put (i := 1) (by omega) HBI.out (Or.inl ⟨by omega, rfl⟩) rfl)
        · obtain rfl := Option.some.inj ho
          have e8 := HJ.out.2.1 (H9.out (by omega))
          rw [e8] at q8
          clear e8
          clear ho hi
          go_simp
          exact HK1.out 40 _ _ (by decide) (HJ.out.put (i := 2) (by omega) HBI.out (Or.inl ⟨by omega, rfl⟩) rfl)
        · obtain rfl := Option.some.inj ho
          have e39 : v 39 = rpW g n k m 1 := HJ.out.2.2.1 1 (by omega) (HDEP.out ⟨1, .data⟩ (by simp) rfl)
          simp only [rpW] at e39
          rw [e39] at q39
          clear e39
          have e40 : v 40 = rpW g n k m 2 := HJ.out.2.2.1 2 (by omega) (HDEP.out ⟨2, .data⟩ (by simp) rfl)
          simp only [rpW] at e40
          rw [e40] at q40
          clear e40
          clear ho hi
          go_simp
          exact HK1.out 41 _ _ (by decide) (HJ.out.put (i := 3) (by omega) HBI.out (Or.inl ⟨by omega, rfl⟩) (by rw [if_neg (by omega)]; rfl))
        · obtain rfl := Option.some.inj ho
          clear ho hi
          go_simp
          exact HK1.out 42 _ _ (by decide) (HJ.out.put (i := 4) (by omega) HBI.out (Or.inl ⟨by omega, rfl⟩) rfl)
        · obtain rfl := Option.some.inj ho
          have e8 := HJ.out.2.1 (H9.out (by omega))
          rw [e8] at q8
          clear e8
          clear ho hi
          go_simp
          exact HK1.out 43 _ _ (by decide) (HJ.out.put (i := 5) (by omega) HBI.out (Or.inl ⟨by omega, rfl⟩) rfl)
        · obtain rfl := Option.some.inj ho
          have e42 : v 42 = rpW g n k m 4 := HJ.out.2.2.1 4 (by omega) (HDEP.out ⟨4, .data⟩ (by simp) rfl)
          simp only [rpW] at e42
          rw [e42] at q42
          clear e42
          have e43 : v 43 = rpW g n k m 5 := HJ.out.2.2.1 5 (by omega) (HDEP.out ⟨5, .data⟩ (by simp) rfl)
          simp only [rpW] at e43
          rw [e43] at q43
          clear e43
          clear ho hi
          go_simp
          exact HK1.out 44 _ _ (by decide) (HJ.out.put (i := 6) (by omega) HBI.out (Or.inl ⟨by omega, rfl⟩) rfl)
        · obtain rfl := Option.some.inj ho
          have e41 : v 41 = rpW g n k m 3 := HJ.out.2.2.1 3 (by omega) (HDEP.out ⟨3, .data⟩ (by simp) rfl)
          simp only [rpW] at e41
          rw [e41] at q41
          clear e41
          have e44 : v 44 = rpW g n k m 6 := HJ.out.2.2.1 6 (by omega) (HDEP.out ⟨6, .data⟩ (by simp) rfl)
          simp only [rpW] at e44
          rw [e44] at q44
          clear e44
          obtain ⟨q, rfl⟩ := HJ.out.2.2.2.2.1 HBI.out
          have hcp := HRUN.out q
          rw [HD.out q] at hcp
          clear ho hi
          refine step_copy (a := ⟨T', []⟩) rfl (.tmp 41) (.tmp 44) 25 25 rfl (.slice (some ⟨g, k, none⟩) (n - k) (n - k)) (.slice (some ⟨g, 0, none⟩) k n) (by simp [go_sem, q41]) (by simp [go_sem, q44]) hcp ?_
          go_simp
          exact HK1.out 45 _ _ (by decide) (HJ.out.put (i := 7) (by omega) HBI.out (Or.inr ⟨rfl, q, rfl⟩) rfl)
        · obtain rfl := Option.some.inj ho
          have e38 : v 38 = rpW g n k m 0 := HJ.out.2.2.1 0 (by omega) (HDEP.out ⟨0, .data⟩ (by simp) rfl)
          simp only [rpW] at e38
          rw [e38] at q38
          clear e38
          have e45 : v 45 = rpW g n k m 7 := HJ.out.2.2.1 7 (by omega) (HDEP.out ⟨7, .data⟩ (by simp) rfl)
          simp only [rpW] at e45
          rw [e45] at q45
          clear e45
          have hsum : IntKind.i64.wrap ((k : Int) + (m : Int)) = ((k + m : Nat) : Int) := by rw [IntKind.wrap_i64]; omega
          clear ho hi
          go_simp
          exact HK1.out 46 _ _ (by decide) (HJ.out.put (i := 8) (by omega) HBI.out (Or.inl ⟨by omega, rfl⟩) rfl)
        · obtain rfl := Option.some.inj ho
          have e46 : v 46 = rpW g n k m 8 := HJ.out.2.2.1 8 (by omega) (HDEP.out ⟨8, .data⟩ (by simp) rfl)
          simp only [rpW] at e46
          rw [e46] at q46
          clear e46
          clear ho hi
          go_simp
          refine HK1.out 8 _ _ (by decide) ?_
          have hall : ∀ i, i < 9 → bb i = true := fun i hi => by
            rcases (by omega : i = 0 ∨ i = 1 ∨ i = 2 ∨ i = 3 ∨ i = 4 ∨ i = 5 ∨ i = 6 ∨ i = 7 ∨ i = 8) with rfl | rfl | rfl | rfl | rfl | rfl | rfl | rfl | rfl <;> exact HDEP.out ⟨_, .phase⟩ (by simp) rfl
          exact ⟨fun _ i hi => (updB_ne (by omega)).trans (hall i hi), fun h => (by rw [updB_eq] at h; cases h), fun i hi _ => (updV_ne (by omega)).trans (HJ.out.2.2.1 i hi (hall i hi)), fun _ => updV_eq _ _ _,
            fun h => (by rw [updB_ne (by omega), hall 7 (by omega)] at h; cases h), fun _ => HJ.out.2.2.2.2.2 (hall 7 (by omega))⟩
      · intro bb v wx hall hJ
        obtain ⟨-, -, -, h4, -, h6⟩ := hJ
        have e8 := h4 (hall 9 (by simp))
        obtain ⟨q, hq⟩ := h6 (hall 7 (by simp))
        clear h4 h6 hall HRUN HD hR hB
        have HR3 : Hid (Rz wx g n (fillF t (k + m))) := by rw [hq]; exact HR2.out
        have HB3 : Hid (Below g w wx) := by rw [hq]; exact HB2.out.trans (Drn.below ⟨q, rfl⟩ _)
        clear hq HR2 HB2
        simp only [over, List.setIfInBounds_toArray, List.set_cons_zero, List.set_cons_succ]
        rw [e8]
        generalize v 38 = v38
        generalize v 39 = v39
        generalize v 40 = v40
        generalize v 41 = v41
        generalize v 42 = v42
        generalize v 43 = v43
        generalize v 44 = v44
        generalize v 45 = v45
        generalize v 46 = v46
        clear e8
        go_wp2_with fail
        exact ⟨⟨k + m, Lib.hid ⟨by omega, by omega⟩, rfl, HR3, HB3⟩, by simp [intOf]; omega⟩
    · have hke : k = n := by omega
      have HF : Hid (RowZ wr g n (fun _ => t)) := by
        have h := hR.out
        unfold Rz at h
        rw [show cz n (fillF t k) = cz n (fun _ => t) from cz_congr fun i hi => if_pos (by omega)] at h
        exact Lib.hid (Rz.rowz h)
      have hlt' : ¬ (k : Int) < (n : Int) := by omega
      clear hke
      go_wp2_with fail
      go_ret
      exact ⟨g, rfl, Nat.le_of_eq hg, HF.out, (by rw [hg]; exact hB.out)⟩
def BV (lo : Nat) (w : World) (u : Value) (h : ChV) : Prop := ∃ A' c', u = .slice A' h.n c' ∧ BrP (fun b => lo ≤ b) w ⟨h.t, h.l, A', h.n, c', h.tw, h.ct, h.cl⟩
theorem far_cells {w : World} {g : Nat} {i j k : Nat} {a b c : Value} {b' : Nat} (h : b' ≠ g) : (((w.setCell ⟨g, i, none⟩ a).setCell ⟨g, j, none⟩ b).setCell ⟨g, k, none⟩ c).heap[b']? = w.heap[b']? :=
  ((Below.heap_setCell _ ⟨g, k, none⟩ c b' h).trans (Below.heap_setCell _ ⟨g, j, none⟩ b b' h)).trans (Below.heap_setCell _ ⟨g, i, none⟩ a b' h)
theorem size_cells {w : World} {g : Nat} {i j k : Nat} {a b c : Value} : (((w.setCell ⟨g, i, none⟩ a).setCell ⟨g, j, none⟩ b).setCell ⟨g, k, none⟩ c).heap.size = w.heap.size := by simp [World.setCell]
section
variable {P : Program} {ops : Array Oper} {Q : Exit → Act → World → Prop}
end
def Bw (w : World) (g T : Nat) (a b c : Value) : Prop := w.heap[g]? = some (.cells #[a, b, c] T (0, 0))
theorem Bw.lt {w : World} {g T : Nat} {a b c : Value} (h : Bw w g T a b c) : g < w.heap.size := lt_of_heap h
theorem Bw.keep {w w' : World} {g T : Nat} {a b c : Value} (h : Bw w g T a b c) (hb : Below w.heap.size w w') : Bw w' g T a b c := (hb.block g h.lt).trans h
theorem Bw.block {w w' : World} {g T : Nat} {a b c : Value} (h : Bw w g T a b c) (hb : w'.heap[g]? = w.heap[g]?) : Bw w' g T a b c := hb.trans h
theorem Bw.out {w : World} {g T : Nat} {a b c : Value} (h : Bw w g T a b c) : w.cell? ⟨g, 0, none⟩ = some a ∧ w.cell? ⟨g, 1, none⟩ = some b ∧ w.cell? ⟨g, 2, none⟩ = some c := by
  have hh : w.heap[g]? = some (.cells #[a, b, c] T (0, 0)) := h
  refine ⟨?_, ?_, ?_⟩ <;> simp [World.cell?, hh]
theorem Bw.frz {w : World} {g T : Nat} {a b c : Value} (h : Bw w g T a b c) : w.frozen? ⟨g, 0, none⟩ = false ∧ w.frozen? ⟨g, 1, none⟩ = false ∧ w.frozen? ⟨g, 2, none⟩ = false := by
  have hh : w.heap[g]? = some (.cells #[a, b, c] T (0, 0)) := h
  refine ⟨?_, ?_, ?_⟩ <;> simp [World.frozen?, hh]
theorem Bw.put {w : World} {g T : Nat} {a b c : Value} (h : Bw w g T a b c) (a' b' c' : Value) : Bw (((w.setCell ⟨g, 0, none⟩ a').setCell ⟨g, 1, none⟩ b').setCell ⟨g, 2, none⟩ c') g T a' b' c' := by
  have hh : w.heap[g]? = some (.cells #[a, b, c] T (0, 0)) := h
  unfold Bw
  simp [World.setCell, Array.getElem?_modify, hh]
theorem Bw.put2 {w : World} {g T : Nat} {a b c : Value} (h : Bw w g T a b c) (c' : Value) : Bw (w.setCell ⟨g, 2, none⟩ c') g T a b c' := by
  have hh : w.heap[g]? = some (.cells #[a, b, c] T (0, 0)) := h
  unfold Bw
  simp [World.setCell, Array.getElem?_modify, hh]
theorem Bw.new (w : World) (T : Nat) (a b c : Value) : Bw (w.alloc (.cells #[a, b, c] T)) w.heap.size T a b c := heap_alloc_new w _
theorem below_put {B : Nat} {X w : World} (h : Below B X w) {g : Nat} (hg : B ≤ g) (i j k : Nat) (a b c : Value) : Below B X (((w.setCell ⟨g, i, none⟩ a).setCell ⟨g, j, none⟩ b).setCell ⟨g, k, none⟩ c) := ((h.setCell (p := ⟨g, i, none⟩) hg a).setCell (p := ⟨g, j, none⟩) hg b).setCell (p := ⟨g, k, none⟩) hg c
def SV (P : Nat → Prop) (w : World) (u : Value) (tg : StV) : Prop := ∃ s : StV, u = .agg #[.int .i64 s.ow, .int .i64 s.mrk, .slice s.A s.n s.c] ∧ StL s tg ∧ StP P w s
def RetT (P : Nat → Prop) (tg : StV) (w : World) (e : Ending) (w' : World) : Prop := ∃ u, e = .returned u ∧ SV P w' u tg ∧ Below w.heap.size w w'
inductive Sm where
  | val (v : Value)
  | st (P : Nat → Prop) (tg : StV)
  | br (lo : Nat) (h : ChV)
  | co (lo : Nat) (h : ChV)
  | el (lo : Nat) (h : ChV)
  | eb
def Sm.ok : Sm → Value → World → Prop
  | .val v, u, _ => u = v
  | .st P tg, u, w => SV P w u tg
  | .br lo h, u, w => BV lo w u h
  | .co lo h, u, w => ∃ A' c', u = .agg #[.int .i64 h.t, .int .i64 h.l, .slice A' h.n c'] ∧ BrP (fun b => lo ≤ b) w ⟨h.t, h.l, A', h.n, c', h.tw, h.ct, h.cl⟩
  | .el lo h, u, w => ∃ e A' c', u = .slice (some ⟨e, 0, none⟩) 1 1 ∧ lo ≤ e ∧ Bw w e 65 (.int .i64 h.t) (.int .i64 h.l) (.slice A' h.n c') ∧ BrP (fun b => lo ≤ b) w ⟨h.t, h.l, A', h.n, c', h.tw, h.ct, h.cl⟩
  | .eb, u, _ => ∃ e, u = .slice (some ⟨e, 0, none⟩) 0 0
theorem Sm.keep {s : Sm} {u : Value} {w w' : World} (h : s.ok u w) (hb : Below w.heap.size w w') : s.ok u w' := by
  cases s with
  | val v => exact h
  | st P tg => obtain ⟨s, e, h1, h2⟩ := h; exact ⟨s, e, h1, h2.stay hb.size fun b hlt _ => hb.block b hlt⟩
  | br lo g => obtain ⟨A, c, e, h1⟩ := h; exact ⟨A, c, e, h1.stay hb.size fun b hlt _ => hb.block b hlt⟩
  | co lo g => obtain ⟨A, c, e, h1⟩ := h; exact ⟨A, c, e, h1.stay hb.size fun b hlt _ => hb.block b hlt⟩
  | el lo g => obtain ⟨x, A, c, e, h0, h2, h1⟩ := h; exact ⟨x, A, c, e, h0, h2.keep hb, h1.stay hb.size fun b hlt _ => hb.block b hlt⟩
  | eb => exact h
def Sml (L : List Sm) (i : Nat) (u : Value) (w : World) : Prop := (L.getD i (.val (.int .i64 0))).ok u w
theorem Sml.keep {L : List Sm} (i : Nat) (u : Value) (w w' : World) (hb : Below w.heap.size w w') (h : Sml L i u w) : Sml L i u w' := Sm.keep h hb
def Rd3 (w : World) (b o : Nat) (p q r : Value) : Prop := b < w.heap.size ∧ w.cell? ⟨b, o, none⟩ = some p ∧ w.cell? ⟨b, o + 1, none⟩ = some q ∧ w.cell? ⟨b, o + 2, none⟩ = some r
theorem Rd3.keep {w w' : World} {b o : Nat} {p q r : Value} (h : Rd3 w b o p q r) (hb : Below w.heap.size w w') : Rd3 w' b o p q r :=
  ⟨Nat.lt_of_lt_of_le h.1 hb.size, (hb.cell (p := ⟨b, o, none⟩) h.1).trans h.2.1, (hb.cell (p := ⟨b, o + 1, none⟩) h.1).trans h.2.2.1, (hb.cell (p := ⟨b, o + 2, none⟩) h.1).trans h.2.2.2⟩
def Rd1 (w : World) (b o : Nat) (p : Value) : Prop := b < w.heap.size ∧ w.cell? ⟨b, o, none⟩ = some p
theorem Rd1.keep {w w' : World} {b o : Nat} {p : Value} (h : Rd1 w b o p) (hb : Below w.heap.size w w') : Rd1 w' b o p :=
  ⟨Nat.lt_of_lt_of_le h.1 hb.size, (hb.cell (p := ⟨b, o, none⟩) h.1).trans h.2⟩
theorem Lst.at {w : World} {A : Option Addr} {n i : Nat} {st : Nat → StV} (h : Lst w A n st) (hi : i < n) : ∃ b off, A = some ⟨b, off, none⟩ ∧ Rd3 w b (off + i * 3) (.int .i64 (st i).ow) (.int .i64 (st i).mrk) (.slice (st i).A (st i).n (st i).c) ∧ Lch w (st i).A (st i).n (st i).ch := by
  obtain ⟨b, off, e, hb, hc⟩ := h.1 (by omega)
  exact ⟨b, off, e, ⟨hb, (hc i hi).1, (hc i hi).2.1, (hc i hi).2.2⟩, h.2 i hi⟩
theorem Lch.at {w : World} {A : Option Addr} {n i : Nat} {ch : Nat → ChV} (h : Lch w A n ch) (hi : i < n) : ∃ b off, A = some ⟨b, off, none⟩ ∧ Rd3 w b (off + i * 3) (.int .i64 (ch i).t) (.int .i64 (ch i).l) (.slice (ch i).A (ch i).n (ch i).c) ∧ Lbr w (ch i).A (ch i).n (ch i).tw (ch i).ct (ch i).cl := by
  obtain ⟨b, off, e, hb, hc⟩ := h.1 (by omega)
  exact ⟨b, off, e, ⟨hb, (hc i hi).1, (hc i hi).2.1, (hc i hi).2.2⟩, h.2 i hi⟩
theorem Lin.at {w : World} {A : Option Addr} {n i : Nat} {f : Nat → Int} (h : Lin w A n f) (hi : i < n) : ∃ b off, A = some ⟨b, off, none⟩ ∧ Rd1 w b (off + i) (.int .i64 (f i)) := by
  obtain ⟨b, off, e, hb, hc⟩ := h (by omega)
  exact ⟨b, off, e, hb, hc i hi⟩
def EndT (P : Nat → Prop) (w : World) (g : Nat) (tg : StV) (w' : World) : Prop := ∃ s : StV, Bw w' g 53 (.int .i64 s.ow) (.int .i64 s.mrk) (.slice s.A s.n s.c) ∧ StL s tg ∧ StP P w' s ∧ Below w.heap.size w w'
theorem fixEnd {P : Nat → Prop} {w Z wx : World} {g : Nat} {s tg : StV} {a b c : Value} (hZ : Below w.heap.size w Z) (hg : w.heap.size ≤ g) (hx : Below Z.heap.size Z wx) (hb : Bw wx g 53 a b c) (hP : ∀ b, P b → b ≠ g) (hs : StL s tg) (hc : StP P wx s) :
    EndT P w g tg (((wx.setCell ⟨g, 0, none⟩ (.int .i64 s.ow)).setCell ⟨g, 1, none⟩ (.int .i64 s.mrk)).setCell ⟨g, 2, none⟩ (.slice s.A s.n s.c)) :=
  ⟨s, hb.put _ _ _, hs, hc.stay (Nat.le_of_eq size_cells.symm) fun b _ hp => far_cells (hP b hp), below_put (hZ.trans (hx.mono hZ.size)) hg 0 1 2 _ _ _⟩
end Go.Proofs.YtmfnpipmbpnfbaaGreatDoor
