/- Rows of numbers in memory, known as a whole: made, written, copied. -/
import Derived.Test.YtmfnpipmbpnfbaaGreatDoorF26
import Derived.Laws.CopyRow
import Derived.Lib.SlBuf
import Derived.Test.YtmfnpipmbpnfbaaGreatDoorF18
import Derived.Test.YtmfnpipmbpnfbaaGreatDoorF01
import Derived.Laws.CopyOwn
import Derived.Deep.DeepCutAuto
import Derived.Deep.CutBlock
import Derived.Deep.CutRange

set_option maxRecDepth 100000
set_option maxHeartbeats 40000000
namespace Go.Proofs.YtmfnpipmbpnfbaaGreatDoor
open Go.RowKit
def Rn (w : World) (g n : Nat) (t l : Nat → Int) : Prop := w.heap[g]? = some (.cells (cellsL n t l).toArray 62 (0, 0))
theorem Rn.lt {w : World} {g n : Nat} {t l : Nat → Int} (h : Rn w g n t l) : g < w.heap.size := lt_of_heap h
theorem Rn.keep {w w' : World} {g n : Nat} {t l : Nat → Int} (h : Rn w g n t l) (hb : Below w.heap.size w w') : Rn w' g n t l := (hb.block g h.lt).trans h
theorem Rn.drewN {w : World} {g n : Nat} {t l : Nat → Int} (h : Rn w g n t l) (q : Nat) : Rn (w.drewN q) g n t l := h
theorem cellsL_at0 {n i : Nat} (t l : Nat → Int) (hi : i < n) : (cellsL n t l)[i * 2]? = some (.int .i64 (t i)) := by
  unfold cellsL
  rw [List.getElem?_map, List.getElem?_range (by omega)]
  simp
theorem cellsL_at1 {n i : Nat} (t l : Nat → Int) (hi : i < n) : (cellsL n t l)[i * 2 + 1]? = some (.int .i64 (l i)) := by
  unfold cellsL
  rw [List.getElem?_map, List.getElem?_range (by omega)]
  have : (i * 2 + 1) / 2 = i := by omega
  have h2 : (i * 2 + 1) % 2 = 1 := by omega
  simp [this, h2]
theorem Rn.cellAt {w : World} {g n : Nat} {t l : Nat → Int} (h : Rn w g n t l) {j : Nat} {u : Value} (hu : (cellsL n t l)[j]? = some u) : w.cell? ⟨g, j, none⟩ = some u := by
  have hh : w.heap[g]? = some (.cells (cellsL n t l).toArray 62 (0, 0)) := h
  unfold World.cell?
  simp [hh, hu]
theorem Rn.frozenAt {w : World} {g n : Nat} {t l : Nat → Int} (h : Rn w g n t l) (j : Nat) : w.frozen? ⟨g, j, none⟩ = false := by
  have hh : w.heap[g]? = some (.cells (cellsL n t l).toArray 62 (0, 0)) := h
  unfold World.frozen?
  simp [hh]
theorem Rn.num {w : World} {g n : Nat} {t l : Nat → Int} (h : Rn w g n t l) : Lnum w (some ⟨g, 0, none⟩) n t l := fun _ =>
  ⟨g, 0, rfl, h.lt, fun i hi => by rw [Nat.zero_add]; exact ⟨h.cellAt (cellsL_at0 t l hi), h.cellAt (cellsL_at1 t l hi)⟩⟩
theorem cellsL_congr {n : Nat} {t l t' l' : Nat → Int} (ht : ∀ i, i < n → t i = t' i) (hl : ∀ i, i < n → l i = l' i) : cellsL n t l = cellsL n t' l' := by
  unfold cellsL
  refine List.map_congr_left fun j hj => ?_
  have := List.mem_range.1 hj
  rw [ht (j / 2) (by omega), hl (j / 2) (by omega)]
theorem made_nums (n : Nat) : madeCells #[.int .i64 0, .int .i64 0] (n * 2) = (cellsL n (fun _ => 0) (fun _ => 0)).toArray := by
  apply Array.ext'
  apply List.ext_getElem?
  intro j
  have e1 : (madeCells #[Value.int .i64 0, Value.int .i64 0] (n * 2)).toList = (List.range (n * 2)).map (fun k => #[Value.int .i64 0, Value.int .i64 0][k % 2]!) := by
    simp [madeCells, ← Array.toList_range]
  rw [e1]
  unfold cellsL
  rw [List.getElem?_map, List.getElem?_map]
  congr 1
  funext k
  rcases (by omega : k % 2 = 0 ∨ k % 2 = 1) with h | h <;> simp [h]
theorem make_nums (n : Nat) (h : n ≤ 4000000) (w : World) :
    (Instr.makeSlice 156 (.int .i64 (n : Int)) (.int .i64 (n : Int))).run Tryz.prog w = .ok (.slice (some ⟨w.heap.size, 0, none⟩) n n) (w.alloc (.cells (cellsL n (fun _ => 0) (fun _ => 0)).toArray 62)) := by
  obtain ⟨i, hi, hz, hs, hb⟩ : ∃ i, Tryz.prog.info? 62 = some i ∧ i.zero = some (.agg #[.int .i64 0, .int .i64 0]) ∧ i.size = 2 ∧ i.bytes = 16 := by
    have h := infoNum
    cases hi : Tryz.prog.info? 62 with
    | none => rw [hi] at h; cases h
    | some i =>
      rw [hi] at h
      simp only [Option.map_some, Option.some.injEq, Prod.mk.injEq] at h
      exact ⟨i, rfl, h.1, h.2.1, h.2.2⟩
  have hr := run_make (P := Tryz.prog) w 156 62 i _ Tryz.underlying156 hi hz .i64 .i64 n n (by omega) (Int.le_refl _) (by rw [hb]; omega) (by omega)
  simp only [Int.toNat_natCast, hs] at hr
  rw [hr]
  have e : (Value.agg #[Value.int .i64 0, Value.int .i64 0]).cells = #[Value.int .i64 0, Value.int .i64 0] := rfl
  rw [e, made_nums]
theorem Rn.new (w : World) (n : Nat) : Rn (w.alloc (.cells (cellsL n (fun _ => 0) (fun _ => 0)).toArray 62)) w.heap.size n (fun _ => 0) (fun _ => 0) := heap_alloc_new w _
theorem cellsL_splice (n k m : Nat) (t l t' l' : Nat → Int) (h : k + m ≤ n) :
    (cellsL n t l).take (k * 2) ++ cellsL m t' l' ++ (cellsL n t l).drop (k * 2 + m * 2) = cellsL n (fun i => if k ≤ i ∧ i < k + m then t' (i - k) else t i) (fun i => if k ≤ i ∧ i < k + m then l' (i - k) else l i) := by
  apply List.ext_getElem?
  intro j
  have hlen1 : ((cellsL n t l).take (k * 2)).length = k * 2 := by rw [List.length_take, cellsL_len]; omega
  rcases Nat.lt_or_ge j (n * 2) with hj | hj
  · have hR : (cellsL n (fun i => if k ≤ i ∧ i < k + m then t' (i - k) else t i) (fun i => if k ≤ i ∧ i < k + m then l' (i - k) else l i))[j]? = some (if j % 2 = 0 then .int .i64 (if k ≤ j / 2 ∧ j / 2 < k + m then t' (j / 2 - k) else t (j / 2)) else .int .i64 (if k ≤ j / 2 ∧ j / 2 < k + m then l' (j / 2 - k) else l (j / 2))) := by
      unfold cellsL
      rw [List.getElem?_map, List.getElem?_range hj]
      rfl
    have hT : (cellsL n t l)[j]? = some (if j % 2 = 0 then .int .i64 (t (j / 2)) else .int .i64 (l (j / 2))) := by
      unfold cellsL
      rw [List.getElem?_map, List.getElem?_range hj]
      rfl
    rw [hR, List.append_assoc]
    rcases Nat.lt_or_ge j (k * 2) with h1 | h1
    · have hc : ¬ (k ≤ j / 2 ∧ j / 2 < k + m) := by omega
      rw [List.getElem?_append_left (by rw [hlen1]; exact h1), List.getElem?_take_of_lt h1, hT, if_neg hc, if_neg hc]
    · rw [List.getElem?_append_right (by rw [hlen1]; exact h1), hlen1]
      rcases Nat.lt_or_ge j (k * 2 + m * 2) with h2 | h2
      · have hc : k ≤ j / 2 ∧ j / 2 < k + m := by omega
        rw [List.getElem?_append_left (by rw [cellsL_len]; omega)]
        unfold cellsL
        rw [List.getElem?_map, List.getElem?_range (by omega), if_pos hc, if_pos hc]
        have e1 : (j - k * 2) % 2 = j % 2 := by omega
        have e2 : (j - k * 2) / 2 = j / 2 - k := by omega
        simp only [Option.map_some, e1, e2]
      · have hc : ¬ (k ≤ j / 2 ∧ j / 2 < k + m) := by omega
        rw [List.getElem?_append_right (by rw [cellsL_len]; omega), List.getElem?_drop, cellsL_len, show k * 2 + m * 2 + (j - k * 2 - m * 2) = j from by omega, hT, if_neg hc, if_neg hc]
  · rw [List.getElem?_eq_none (by simp only [List.length_append, List.length_drop, cellsL_len, hlen1]; omega), List.getElem?_eq_none (by rw [cellsL_len]; exact hj)]
theorem Rn.put {w : World} {g n : Nat} {t l : Nat → Int} (h : Rn w g n t l) {k : Nat} (hk : k < n) (a b : Int) :
    Rn ((w.setCell ⟨g, k * 2, none⟩ (.int .i64 a)).setCell ⟨g, k * 2 + 1, none⟩ (.int .i64 b)) g n (fun i => if i = k then a else t i) (fun i => if i = k then b else l i) := by
  have hh : w.heap[g]? = some (.cells (cellsL n t l).toArray 62 (0, 0)) := h
  rw [setCell_eq_setRow w g (k * 2) _ _ (0, 0) _ hh]
  have h2 := setRow_heap w g (cellsL n t l).toArray ((cellsL n t l).toArray.setIfInBounds (k * 2) (.int .i64 a)) 62 (0, 0) hh
  rw [setCell_eq_setRow _ g (k * 2 + 1) _ _ (0, 0) _ h2]
  show (World.setRow _ g _).heap[g]? = _
  rw [setRow_heap _ g _ _ _ _ h2]
  congr 2
  apply Array.ext'
  apply List.ext_getElem?
  intro j
  simp only [Array.toList_setIfInBounds]
  rw [List.getElem?_set, List.getElem?_set]
  simp only [List.length_set, cellsL_len]
  rcases Nat.lt_or_ge j (n * 2) with hj | hj
  · have hR : (cellsL n (fun i => if i = k then a else t i) (fun i => if i = k then b else l i))[j]? = some (if j % 2 = 0 then .int .i64 (if j / 2 = k then a else t (j / 2)) else .int .i64 (if j / 2 = k then b else l (j / 2))) := by
      unfold cellsL
      rw [List.getElem?_map, List.getElem?_range hj]
      rfl
    have hT : (cellsL n t l)[j]? = some (if j % 2 = 0 then .int .i64 (t (j / 2)) else .int .i64 (l (j / 2))) := by
      unfold cellsL
      rw [List.getElem?_map, List.getElem?_range hj]
      rfl
    rw [hR, hT]
    by_cases e1 : k * 2 + 1 = j
    · have c1 : ¬ j % 2 = 0 := by omega
      have c2 : j / 2 = k := by omega
      rw [if_pos e1, if_pos (by omega), if_neg c1, if_pos c2]
    · rw [if_neg e1]
      by_cases e2 : k * 2 = j
      · have c1 : j % 2 = 0 := by omega
        have c2 : j / 2 = k := by omega
        rw [if_pos e2, if_pos (by omega), if_pos c1, if_pos c2]
      · rw [if_neg e2]
        by_cases e3 : j / 2 = k
        · omega
        · rw [if_neg e3, if_neg e3]
  · rw [if_neg (by omega), if_neg (by omega), List.getElem?_eq_none (by rw [cellsL_len]; exact hj), List.getElem?_eq_none (by rw [cellsL_len]; exact hj)]
theorem run_copy2 (w : World) (ty g k dLen dCap n m : Nat) (a : Addr) (sLen sCap : Nat) (t l t' l' : Nat → Int) (h : Rn w g n t l) (hm : m = Nat.min sLen dLen) (hk : k + m ≤ n)
    (hsrc : ∀ j v, (cellsL m t' l')[j]? = some v → w.cell? (a.add j) = some v) :
    (Builtin.copy_ #[156, 156] ty #[.slice (some ⟨g, k * 2, none⟩) dLen dCap, .slice (some a) sLen sCap]).run Tryz.prog w =
      .ok (.int .i64 (m : Int)) (w.setRow g (cellsL n (fun i => if k ≤ i ∧ i < k + m then t' (i - k) else t i) (fun i => if k ≤ i ∧ i < k + m then l' (i - k) else l i)).toArray) := by
  have hh : w.heap[g]? = some (.cells (cellsL n t l).toArray 62 (0, 0)) := h
  have hl := run_loadCells_list (P := Tryz.prog) w a (cellsL m t' l') hsrc
  have hst := run_storeCells_at Tryz.prog g (k * 2) 62 (cellsL m t' l') 0 (cellsL n t l).toArray w hh (by simp only [cellsL_len, List.size_toArray]; omega) (cellsL_one m t' l')
  rw [cellsL_len] at hl hst
  simp only [Nat.add_zero] at hst
  rw [cellsL_splice n k m t l t' l' hk] at hst
  obtain ⟨i, hi, hz, hs, hb⟩ : ∃ i, Tryz.prog.info? 62 = some i ∧ i.zero = some (.agg #[.int .i64 0, .int .i64 0]) ∧ i.size = 2 ∧ i.bytes = 16 := by
    have h := infoNum
    cases hi : Tryz.prog.info? 62 with
    | none => rw [hi] at h; cases h
    | some i =>
      rw [hi] at h
      simp only [Option.map_some, Option.some.injEq, Prod.mk.injEq] at h
      exact ⟨i, rfl, h.1, h.2.1, h.2.2⟩
  subst hm
  simp [Builtin.copy_, run_underlying Tryz.underlying156, Builtin.lenOf, Builtin.firstCells, sizeOf, typeInfo, hi, hs, hl, hst, goInt]
theorem mul64_small (n : Nat) (hn : n ≤ 8) (w : World) : Calls Tryz.prog 160 #[.int .u64 1, .int .u64 (n : Int)] w fun e w' => e = .returned (.tuple #[.int .u64 0, .int .u64 (n : Int)]) ∧ w = w' := by
  rcases (by omega : n = 0 ∨ n = 1 ∨ n = 2 ∨ n = 3 ∨ n = 4 ∨ n = 5 ∨ n = 6 ∨ n = 7 ∨ n = 8) with rfl | rfl | rfl | rfl | rfl | rfl | rfl | rfl | rfl
  all_goals
    go_enter Tryz.func160, Tryz.ntmps160
    go_wp2_with fail
    go_ret2
    exact ⟨rfl, rfl⟩
theorem mul_small (n : Nat) (hn : n ≤ 8) (w : World) : Calls Tryz.prog 137 #[.int .u64 1, .int .u64 (n : Int)] w fun e w' => e = .returned (.tuple #[.int .u64 0, .int .u64 (n : Int)]) ∧ w = w' := by
  go_enter Tryz.func137, Tryz.ntmps137
  go_wp2_with fail
  (with_reducible refine (mul64_small n hn _).mono ?_)
  rintro e w1 ⟨rfl, rfl⟩
  go_wp2_with fail
  go_ret2
  exact ⟨rfl, rfl⟩
def fillF (z : Int) (k : Nat) : Nat → Int := fun i => if i < k then z else 0
theorem fill_step (n k m : Nat) (t l : Int) (_hk : k + m ≤ n) : cellsL n (fun i => if k ≤ i ∧ i < k + m then t else fillF t k i) (fun i => if k ≤ i ∧ i < k + m then l else fillF l k i) = cellsL n (fillF t (k + m)) (fillF l (k + m)) := by
  refine cellsL_congr (fun i _ => ?_) (fun i _ => ?_) <;>
  · unfold fillF
    by_cases h1 : i < k
    · rw [if_neg (by omega), if_pos h1, if_pos (by omega)]
    · by_cases h2 : i < k + m
      · rw [if_pos (by omega), if_pos h2]
      · rw [if_neg (by omega), if_neg h1, if_neg h2]
theorem fill_zero (n : Nat) (t l : Int) : cellsL n (fun _ => 0) (fun _ => 0) = cellsL n (fillF t 0) (fillF l 0) := by
  refine cellsL_congr (fun i _ => ?_) (fun i _ => ?_) <;> exact (if_neg (by omega)).symm
theorem run_fill (w : World) (ty g k n : Nat) (t l : Int) (h : Rn w g n (fillF t k) (fillF l k)) (hk : k ≤ n) :
    (Builtin.copy_ #[156, 156] ty #[.slice (some ⟨g, k * 2, none⟩) (n - k) (n - k), .slice (some ⟨g, 0, none⟩) k n]).run Tryz.prog w =
      .ok (.int .i64 ((Nat.min k (n - k) : Nat) : Int)) (w.setRow g (cellsL n (fillF t (k + Nat.min k (n - k))) (fillF l (k + Nat.min k (n - k)))).toArray) := by
  have hm : Nat.min k (n - k) ≤ k ∧ Nat.min k (n - k) ≤ n - k := ⟨Nat.min_le_left _ _, Nat.min_le_right _ _⟩
  have hr := run_copy2 w ty g k (n - k) (n - k) n (Nat.min k (n - k)) ⟨g, 0, none⟩ k n (fillF t k) (fillF l k) (fun _ => t) (fun _ => l) h rfl (by omega) (fun j v hv => by
    obtain ⟨hj, e⟩ := cellsL_get hv
    have hadd : (⟨g, 0, none⟩ : Addr).add j = ⟨g, j, none⟩ := by unfold Addr.add; split <;> simp_all
    rw [hadd]
    refine h.cellAt ?_
    unfold cellsL
    rw [List.getElem?_map, List.getElem?_range (by omega), e, Option.map_some]
    have h2 : fillF t k (j / 2) = t := if_pos (by omega)
    have h3 : fillF l k (j / 2) = l := if_pos (by omega)
    rw [h2, h3])
  rw [fill_step n k _ t l (by omega)] at hr
  exact hr
theorem run_fill0 (w : World) (ty g n gx cx : Nat) (t l : Int) (h : Rn w g n (fun _ => 0) (fun _ => 0)) (hn : 1 ≤ n) (h0 : w.cell? ⟨gx, 0, none⟩ = some (.int .i64 t)) (h1 : w.cell? ⟨gx, 1, none⟩ = some (.int .i64 l)) :
    (Builtin.copy_ #[156, 156] ty #[.slice (some ⟨g, 0, none⟩) n n, .slice (some ⟨gx, 0, none⟩) 1 cx]).run Tryz.prog w =
      .ok (.int .i64 1) (w.setRow g (cellsL n (fillF t 1) (fillF l 1)).toArray) := by
  unfold Rn at h
  rw [fill_zero n t l] at h
  have hr := run_copy2 w ty g 0 n n n 1 ⟨gx, 0, none⟩ 1 cx (fillF t 0) (fillF l 0) (fun _ => t) (fun _ => l) h (Nat.min_eq_left hn).symm (by omega) (fun j v hv => by
    obtain ⟨hj, e⟩ := cellsL_get hv
    have hadd : (⟨gx, 0, none⟩ : Addr).add j = ⟨gx, j, none⟩ := by unfold Addr.add; split <;> simp_all
    rw [hadd, e]
    rcases (by omega : j = 0 ∨ j = 1) with rfl | rfl
    · exact h0
    · exact h1)
  rw [fill_step n 0 1 t l (by omega)] at hr
  exact hr
theorem Rn.row {w : World} {g n : Nat} {t l t' l' : Nat → Int} (h : Rn w g n t l) : Rn (w.setRow g (cellsL n t' l').toArray) g n t' l' := setRow_heap w g _ _ _ _ h
def rpV (g n k m : Nat) : Nat → Value
  | 0 => .int .i64 (k : Int)
  | 1 => .slice (some ⟨g, 0, none⟩) n n
  | 2 => .int .i64 (k : Int)
  | 3 => .slice (some ⟨g, k * 2, none⟩) (n - k) (n - k)
  | 4 => .slice (some ⟨g, 0, none⟩) n n
  | 5 => .int .i64 (k : Int)
  | 6 => .slice (some ⟨g, 0, none⟩) k n
  | 7 => .int .i64 (m : Int)
  | _ => .int .i64 ((k + m : Nat) : Int)
def RpJ (g n k m : Nat) (wr w2 : World) (b : Nat → Bool) (v : Nat → Value) (wx : World) : Prop :=
  (b 9 = true → ∀ i, i < 9 → b i = true) ∧ (b 9 = false → v 8 = .int .i64 (k : Int)) ∧ (∀ i, i < 9 → b i = true → v (38 + i) = rpV g n k m i) ∧ (b 9 = true → v 8 = .int .i64 ((k + m : Nat) : Int)) ∧ (b 7 = false → ∃ q, wx = wr.drewN q) ∧ (b 7 = true → ∃ q, wx = w2.drewN q)
theorem updB_ne {b : Nat → Bool} {i j : Nat} (h : j ≠ i) : updB b i j = b j := by unfold updB; rw [if_neg h]
theorem updB_eq (b : Nat → Bool) (i : Nat) : updB b i i = true := by unfold updB; rw [if_pos rfl]
theorem updV_ne {v : Nat → Value} {d j : Nat} {x : Value} (h : j ≠ d) : updV v d x j = v j := by unfold updV; rw [if_neg h]
theorem updV_eq (v : Nat → Value) (d : Nat) (x : Value) : updV v d x d = x := by unfold updV; rw [if_pos rfl]
theorem RpJ.put {g n k m i : Nat} {wr w2 wx wy : World} {b : Nat → Bool} {v : Nat → Value} (h : RpJ g n k m wr w2 b v wx) (hi : i < 9) (hb : b i = false)
    (hw : (i ≠ 7 ∧ wy = wx) ∨ (i = 7 ∧ ∃ q, wy = w2.drewN q)) {u : Value} (hu : u = rpV g n k m i) : RpJ g n k m wr w2 (updB b i) (updV v (38 + i) u) wy := by
  obtain ⟨h1, h2, h3, h4, h5, h6⟩ := h
  have h9 : b 9 = false := by
    cases e : b 9 with
    | false => rfl
    | true => rw [h1 e i hi] at hb; cases hb
  have e9 : updB b i 9 = false := (updB_ne (by omega)).trans h9
  refine ⟨fun h => (by rw [e9] at h; cases h), fun _ => ?_, fun j hj hbj => ?_, fun h => (by rw [e9] at h; cases h), fun h7 => ?_, fun h7 => ?_⟩
  · rw [updV_ne (by omega)]
    exact h2 h9
  · by_cases e : j = i
    · subst e
      rw [updV_eq]
      exact hu
    · rw [updV_ne (by omega)]
      rw [updB_ne e] at hbj
      exact h3 j hj hbj
  · rcases hw with ⟨hne, rfl⟩ | ⟨rfl, hq⟩
    · rw [updB_ne (Ne.symm hne)] at h7
      exact h5 h7
    · rw [updB_eq] at h7
      cases h7
  · rcases hw with ⟨hne, rfl⟩ | ⟨rfl, hq⟩
    · rw [updB_ne (Ne.symm hne)] at h7
      exact h6 h7
    · exact hq
theorem step_copy {P : Program} {ops : Array Oper} {o : Oper} {a : Act} {w : World} {K : Act → World → Prop} {Q : Exit → Act → World → Prop} {E : Prop}
    (hg : o.guard = none) (d x : Operand) (dT sT : TypeId) (hop : o.op = Op.call { callee := Callee.builtin Builtin.copy, args := #[d, x], argTypes := #[dT, sT] })
    (v u : Value) (hd : a.eval d = v) (hx : a.eval x = u) {v' : Value} {w' : World} (hr : (Builtin.copy_ #[dT, sT] o.type #[v, u]).run P w = .ok v' w') (hK : K (a.put o.dst v') w') :
    if Region.wanted o (yielded ops a.tmps) = true then Oper.wp P o a w K Q else E := by
  have hw : Region.wanted o (yielded ops a.tmps) = true := by simp [Region.wanted, hg]
  rw [if_pos hw]
  unfold Oper.wp
  simp [execOp, hop, resolve, invoke, builtin, hd, hx, hr, Result.andThen]
  exact hK
def RepPost (n : Nat) (t l : Int) (w : World) (e : Ending) (w' : World) : Prop := ∃ A c, e = .returned (.slice A n c) ∧ n ≤ c ∧ Lnum w' A n (fun _ => t) (fun _ => l) ∧ Below w.heap.size w w'
theorem repeat_any (gx cx n : Nat) (t l : Int) (w : World) (hn1 : 1 ≤ n) (hn : n ≤ 8) (h0 : w.cell? ⟨gx, 0, none⟩ = some (.int .i64 t)) (h1 : w.cell? ⟨gx, 1, none⟩ = some (.int .i64 l)) (hx : gx < w.heap.size) :
    Calls Tryz.prog 127 #[.slice (some ⟨gx, 0, none⟩) 1 cx, .int .i64 (n : Int)] w (RepPost n t l w) := by
  have H0 := Lib.hid h0
  have H1 := Lib.hid h1
  have b1 : decide ((n : Int) < 0) = false := by simp
  have b2 : decide ((9223372036854775807 : Int) < (n : Int)) = false := by simp; omega
  have hmk := make_nums n (by omega)
  clear h0 h1
  go_enter Tryz.func127, Tryz.ntmps127
  go_wp2_with fail
  (with_reducible refine (mul_small n hn _).mono ?_)
  rintro e w1 ⟨rfl, rfl⟩
  go_upto_region 7 with fail
  generalize hX : w.alloc _ = X
  have HX : Hid (Below w.heap.size w X) := by rw [← hX]; exact below_alloc _ _
  have HR0 : Rn X w.heap.size n (fun _ => 0) (fun _ => 0) := by rw [← hX]; exact Rn.new w n
  have hr := run_fill0 X 3 w.heap.size n gx cx t l HR0 hn1 ((HX.out.cell (p := ⟨gx, 0, none⟩) hx).trans H0.out) ((HX.out.cell (p := ⟨gx, 1, none⟩) hx).trans H1.out)
  have HR : Hid (Rn (X.setRow w.heap.size (cellsL n (fillF t 1) (fillF l 1)).toArray) w.heap.size n (fillF t 1) (fillF l 1)) := HR0.row
  have HB : Hid (Below w.heap.size w (X.setRow w.heap.size (cellsL n (fillF t 1) (fillF l 1)).toArray)) := below_setRow HX.out (Nat.le_refl _) _
  clear hX hmk HR0 b1 b2
  go_wp2_with (with_reducible refine Lib.wpList_copy_run _ rfl (.tmp 31) (.tmp 32) 156 156 rfl _ _ rfl rfl hr ?_)
  clear hr
  generalize X.setRow w.heap.size (cellsL n (fillF t 1) (fillF l 1)).toArray = Y at *
  generalize hg : w.heap.size = g at *
  go_loopw [8] (fun i wr => ∃ k : Nat, Hid (1 ≤ k ∧ k ≤ n) ∧ i = .int .i64 (k : Int) ∧ Hid (Rn wr g n (fillF t k) (fillF l k)) ∧ Hid (Below g w wr)) (fun i _ => n - (intOf i).toNat)
  case atStart => exact ⟨1, Lib.hid ⟨Nat.le_refl _, hn1⟩, rfl, HR, HB⟩
  case round =>
    clear HR HB
    obtain ⟨k, hk, rfl, hR, hB⟩ := hrel
    obtain ⟨hk1, hk2⟩ := hk.out
    by_cases hlt : k < n
    · have hlt' : (k : Int) < (n : Int) := by omega
      have hm : Nat.min k (n - k) ≤ k ∧ Nat.min k (n - k) ≤ n - k ∧ 1 ≤ Nat.min k (n - k) := ⟨Nat.min_le_left _ _, Nat.min_le_right _ _, Nat.le_min.2 ⟨hk1, by omega⟩⟩
      have hrun := fun q => run_fill (wr.drewN q) 3 g k n t l (hR.out.drewN q) hk2
      generalize Nat.min k (n - k) = m at *
      have HRUN := Lib.hid hrun
      clear hrun
      generalize hw2 : wr.setRow g (cellsL n (fillF t (k + m)) (fillF l (k + m))).toArray = w2 at *
      have HR2 : Hid (Rn w2 g n (fillF t (k + m)) (fillF l (k + m))) := by rw [← hw2]; exact hR.out.row
      have HB2 : Hid (Below g w w2) := by rw [← hw2]; exact below_setRow hB.out (Nat.le_refl _) _
      have HD : Hid (∀ q, (wr.drewN q).setRow g (cellsL n (fillF t (k + m)) (fillF l (k + m))).toArray = w2.drewN q) := fun q => by rw [← hw2]; rfl
      clear hw2
      go_upto_region 9 with fail
      refine wp_region_inv3 [38, 39, 40, 41, 42, 43, 44, 45, 46, 8] (RpJ g n k m wr w2) (by kernel_rfl) (by kernel_rfl) (by kernel_rfl) ?_ ?_ ?_
      · exact ⟨fun h => Bool.noConfusion h, fun _ => rfl, fun i _ h => Bool.noConfusion h, fun h => Bool.noConfusion h, fun _ => ⟨1, rfl⟩, fun h => Bool.noConfusion h⟩
      · intro i bb v wx o T' K ho hdep hbi hJ hin hout K1 K2
        have hi : i < 10 := (Array.getElem?_eq_some_iff.1 ho).1
        have q8 := hin 8 (by decide)
        have q38 := hin 38 (by decide)
        have q39 := hin 39 (by decide)
        have q40 := hin 40 (by decide)
        have q41 := hin 41 (by decide)
        have q42 := hin 42 (by decide)
        have q43 := hin 43 (by decide)
        have q44 := hin 44 (by decide)
        have q45 := hin 45 (by decide)
        have q46 := hin 46 (by decide)
        have q7 := (hout 7 (by decide)).trans rfl
        have HJ := Lib.hid hJ
        have HDEP := Lib.hid hdep
        have HK1 := Lib.hid K1
        have HBI := Lib.hid hbi
        clear hin hout hJ hdep K1 K2 hbi
        have h9 : i < 9 → bb 9 = false := fun h => by
          cases e : bb 9 with
          | false => rfl
          | true => have h2 := HJ.out.1 e i h; rw [HBI.out] at h2; cases h2
        have H9 := Lib.hid h9
        clear h9
        rcases (by omega : i = 0 ∨ i = 1 ∨ i = 2 ∨ i = 3 ∨ i = 4 ∨ i = 5 ∨ i = 6 ∨ i = 7 ∨ i = 8 ∨ i = 9) with rfl | rfl | rfl | rfl | rfl | rfl | rfl | rfl | rfl | rfl
        · obtain rfl := Option.some.inj ho
          have e8 := HJ.out.2.1 (H9.out (by omega))
          rw [e8] at q8
          clear e8
          clear ho hi
          go_simp
          exact HK1.out 38 _ _ (by decide) (HJ.out.put (i := 0) (by omega) HBI.out (Or.inl ⟨by omega, rfl⟩) rfl)
        · obtain rfl := Option.some.inj ho
          clear ho hi
          go_simp
          exact HK1.out 39 _ _ (by decide) (HJ.out.put (i := 1) (by omega) HBI.out (Or.inl ⟨by omega, rfl⟩) rfl)
        · obtain rfl := Option.some.inj ho
          have e8 := HJ.out.2.1 (H9.out (by omega))
          rw [e8] at q8
          clear e8
          clear ho hi
          go_simp
          exact HK1.out 40 _ _ (by decide) (HJ.out.put (i := 2) (by omega) HBI.out (Or.inl ⟨by omega, rfl⟩) rfl)
        · obtain rfl := Option.some.inj ho
          have e39 : v 39 = rpV g n k m 1 := HJ.out.2.2.1 1 (by omega) (HDEP.out ⟨1, .data⟩ (by simp) rfl)
          simp only [rpV] at e39
          rw [e39] at q39
          clear e39
          have e40 : v 40 = rpV g n k m 2 := HJ.out.2.2.1 2 (by omega) (HDEP.out ⟨2, .data⟩ (by simp) rfl)
          simp only [rpV] at e40
          rw [e40] at q40
          clear e40
          clear ho hi
          go_simp
          exact HK1.out 41 _ _ (by decide) (HJ.out.put (i := 3) (by omega) HBI.out (Or.inl ⟨by omega, rfl⟩) (by rw [if_neg (by omega)]; rfl))
        · obtain rfl := Option.some.inj ho
          clear ho hi
          go_simp
          exact HK1.out 42 _ _ (by decide) (HJ.out.put (i := 4) (by omega) HBI.out (Or.inl ⟨by omega, rfl⟩) rfl)
        · obtain rfl := Option.some.inj ho
          have e8 := HJ.out.2.1 (H9.out (by omega))
          rw [e8] at q8
          clear e8
          clear ho hi
          go_simp
          exact HK1.out 43 _ _ (by decide) (HJ.out.put (i := 5) (by omega) HBI.out (Or.inl ⟨by omega, rfl⟩) rfl)
        · obtain rfl := Option.some.inj ho
          have e42 : v 42 = rpV g n k m 4 := HJ.out.2.2.1 4 (by omega) (HDEP.out ⟨4, .data⟩ (by simp) rfl)
          simp only [rpV] at e42
          rw [e42] at q42
          clear e42
          have e43 : v 43 = rpV g n k m 5 := HJ.out.2.2.1 5 (by omega) (HDEP.out ⟨5, .data⟩ (by simp) rfl)
          simp only [rpV] at e43
          rw [e43] at q43
          clear e43
          clear ho hi
          go_simp
          exact HK1.out 44 _ _ (by decide) (HJ.out.put (i := 6) (by omega) HBI.out (Or.inl ⟨by omega, rfl⟩) rfl)
        · obtain rfl := Option.some.inj ho
          have e41 : v 41 = rpV g n k m 3 := HJ.out.2.2.1 3 (by omega) (HDEP.out ⟨3, .data⟩ (by simp) rfl)
          simp only [rpV] at e41
          rw [e41] at q41
          clear e41
          have e44 : v 44 = rpV g n k m 6 := HJ.out.2.2.1 6 (by omega) (HDEP.out ⟨6, .data⟩ (by simp) rfl)
          simp only [rpV] at e44
          rw [e44] at q44
          clear e44
          obtain ⟨q, rfl⟩ := HJ.out.2.2.2.2.1 HBI.out
          have hcp := HRUN.out q
          rw [HD.out q] at hcp
          clear ho hi
          refine step_copy (a := ⟨T', []⟩) rfl (.tmp 41) (.tmp 44) 156 156 rfl (.slice (some ⟨g, k * 2, none⟩) (n - k) (n - k)) (.slice (some ⟨g, 0, none⟩) k n) (by simp [go_sem, q41]) (by simp [go_sem, q44]) hcp ?_
          go_simp
          exact HK1.out 45 _ _ (by decide) (HJ.out.put (i := 7) (by omega) HBI.out (Or.inr ⟨rfl, q, rfl⟩) rfl)
        · obtain rfl := Option.some.inj ho
          have e38 : v 38 = rpV g n k m 0 := HJ.out.2.2.1 0 (by omega) (HDEP.out ⟨0, .data⟩ (by simp) rfl)
          simp only [rpV] at e38
          rw [e38] at q38
          clear e38
          have e45 : v 45 = rpV g n k m 7 := HJ.out.2.2.1 7 (by omega) (HDEP.out ⟨7, .data⟩ (by simp) rfl)
          simp only [rpV] at e45
          rw [e45] at q45
          clear e45
          have hsum : IntKind.i64.wrap ((k : Int) + (m : Int)) = ((k + m : Nat) : Int) := by rw [IntKind.wrap_i64]; omega
          clear ho hi
          go_simp
          exact HK1.out 46 _ _ (by decide) (HJ.out.put (i := 8) (by omega) HBI.out (Or.inl ⟨by omega, rfl⟩) rfl)
        · obtain rfl := Option.some.inj ho
          have e46 : v 46 = rpV g n k m 8 := HJ.out.2.2.1 8 (by omega) (HDEP.out ⟨8, .data⟩ (by simp) rfl)
          simp only [rpV] at e46
          rw [e46] at q46
          clear e46
          clear ho hi
          go_simp
          refine HK1.out 8 _ _ (by decide) ?_
          have hall : ∀ i, i < 9 → bb i = true := fun i hi => by
            rcases (by omega : i = 0 ∨ i = 1 ∨ i = 2 ∨ i = 3 ∨ i = 4 ∨ i = 5 ∨ i = 6 ∨ i = 7 ∨ i = 8) with rfl | rfl | rfl | rfl | rfl | rfl | rfl | rfl | rfl <;> exact HDEP.out ⟨_, .phase⟩ (by simp) rfl
          exact ⟨fun _ i hi => (updB_ne (by omega)).trans (hall i hi), fun h => (by rw [updB_eq] at h; cases h), fun i hi _ => (updV_ne (by omega)).trans (HJ.out.2.2.1 i hi (hall i hi)), fun _ => updV_eq _ _ _,
            fun h => (by rw [updB_ne (by omega), hall 7 (by omega)] at h; cases h), fun _ => HJ.out.2.2.2.2.2 (hall 7 (by omega))⟩
      · intro bb v wx hall hJ
        obtain ⟨-, -, -, h4, -, h6⟩ := hJ
        have e8 := h4 (hall 9 (by simp))
        obtain ⟨q, hq⟩ := h6 (hall 7 (by simp))
        clear h4 h6 hall HRUN HD hR hB
        have HR3 : Hid (Rn wx g n (fillF t (k + m)) (fillF l (k + m))) := by rw [hq]; exact HR2.out
        have HB3 : Hid (Below g w wx) := by rw [hq]; exact HB2.out.trans (Drn.below ⟨q, rfl⟩ _)
        clear hq HR2 HB2
        simp only [over, List.setIfInBounds_toArray, List.set_cons_zero, List.set_cons_succ]
        rw [e8]
        generalize v 38 = v38
        generalize v 39 = v39
        generalize v 40 = v40
        generalize v 41 = v41
        generalize v 42 = v42
        generalize v 43 = v43
        generalize v 44 = v44
        generalize v 45 = v45
        generalize v 46 = v46
        clear e8
        go_wp2_with fail
        exact ⟨⟨k + m, Lib.hid ⟨by omega, by omega⟩, rfl, HR3, HB3⟩, by simp [intOf]; omega⟩
    · have hke : k = n := by omega
      have HF : Hid (Lnum wr (some ⟨g, 0, none⟩) n (fun _ => t) (fun _ => l)) := by
        have e : cellsL n (fillF t k) (fillF l k) = cellsL n (fun _ => t) (fun _ => l) := cellsL_congr (fun i hi => if_pos (by omega)) (fun i hi => if_pos (by omega))
        have h := hR.out
        unfold Rn at h
        rw [e] at h
        exact Rn.num h
      have hlt' : ¬ (k : Int) < (n : Int) := by omega
      clear hke hR hk
      go_wp2_with fail
      go_ret
      exact ⟨some ⟨g, 0, none⟩, n, rfl, Nat.le_refl _, HF.out, by rw [hg]; exact hB.out⟩
end Go.Proofs.YtmfnpipmbpnfbaaGreatDoor
