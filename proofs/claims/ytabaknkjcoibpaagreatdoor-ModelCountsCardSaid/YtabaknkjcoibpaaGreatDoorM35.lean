/- slices.Repeat of one number. The sum of products of two lists of numbers, as a fraction of any size in memory. -/
import Derived.Test.YtabaknkjcoibpaaGreatDoorM21
import Derived.Test.YtabaknkjcoibpaaGreatDoorM34
import Derived.Test.YtabaknkjcoibpaaGreatDoorM01
import Derived.Laws.CopyOwn
import Derived.Deep.DeepCutAuto
import Derived.Deep.CutBlock
import Derived.Deep.CutRange
import Derived.Test.YtabaknkjcoibpaaGreatDoorM33
import Derived.Test.YtabaknkjcoibpaaGreatDoorM27

namespace Go.Proofs.YtabaknkjcoibpaaGreatDoor
open Go.RowKit

theorem mul64_small (n : Nat) (hn : n ≤ 8) (w : World) : Calls Tryz.prog 160 #[.int .u64 1, .int .u64 (n : Int)] w fun e w' => e = .returned (.tuple #[.int .u64 0, .int .u64 (n : Int)]) ∧ w = w' := by
  rcases (by omega : n = 0 ∨ n = 1 ∨ n = 2 ∨ n = 3 ∨ n = 4 ∨ n = 5 ∨ n = 6 ∨ n = 7 ∨ n = 8) with rfl | rfl | rfl | rfl | rfl | rfl | rfl | rfl | rfl
  all_goals
    go_enter Tryz.func160, Tryz.ntmps160
    go_wp2_with fail
    go_ret2
    exact ⟨rfl, rfl⟩

theorem mul_small (n : Nat) (hn : n ≤ 8) (w : World) : Calls Tryz.prog 137 #[.int .u64 1, .int .u64 (n : Int)] w fun e w' => e = .returned (.tuple #[.int .u64 0, .int .u64 (n : Int)]) ∧ w = w' := by
  go_enter Tryz.func137, Tryz.ntmps137
  go_wp2_with fail
  (with_reducible refine (mul64_small n hn _).mono ?_)
  rintro e w1 ⟨rfl, rfl⟩
  go_wp2_with fail
  go_ret2
  exact ⟨rfl, rfl⟩

/-- The first k numbers are z, the others are 0. -/
def fillF (z : Int) (k : Nat) : Nat → Int := fun i => if i < k then z else 0
theorem fill_step (n k m : Nat) (t l : Int) (_hk : k + m ≤ n) : cellsL n (fun i => if k ≤ i ∧ i < k + m then t else fillF t k i) (fun i => if k ≤ i ∧ i < k + m then l else fillF l k i) = cellsL n (fillF t (k + m)) (fillF l (k + m)) := by
  refine cellsL_congr (fun i _ => ?_) (fun i _ => ?_) <;>
  · unfold fillF
    by_cases h1 : i < k
    · rw [if_neg (by omega), if_pos h1, if_pos (by omega)]
    · by_cases h2 : i < k + m
      · rw [if_pos (by omega), if_pos h2]
      · rw [if_neg (by omega), if_neg h1, if_neg h2]
theorem fill_zero (n : Nat) (t l : Int) : cellsL n (fun _ => 0) (fun _ => 0) = cellsL n (fillF t 0) (fillF l 0) := by
  refine cellsL_congr (fun i _ => ?_) (fun i _ => ?_) <;> exact (if_neg (by omega)).symm

/-- The copy of the loop. -/
theorem run_fill (w : World) (ty g k n : Nat) (t l : Int) (h : Rn w g n (fillF t k) (fillF l k)) (hk : k ≤ n) :
    (Builtin.copy_ #[156, 156] ty #[.slice (some ⟨g, k * 2, none⟩) (n - k) (n - k), .slice (some ⟨g, 0, none⟩) k n]).run Tryz.prog w =
      .ok (.int .i64 ((Nat.min k (n - k) : Nat) : Int)) (w.setRow g (cellsL n (fillF t (k + Nat.min k (n - k))) (fillF l (k + Nat.min k (n - k)))).toArray) := by
  have hm : Nat.min k (n - k) ≤ k ∧ Nat.min k (n - k) ≤ n - k := ⟨Nat.min_le_left _ _, Nat.min_le_right _ _⟩
  have hr := run_copy2 w ty g k (n - k) (n - k) n (Nat.min k (n - k)) ⟨g, 0, none⟩ k n (fillF t k) (fillF l k) (fun _ => t) (fun _ => l) h rfl (by omega) (fun j v hv => by
    obtain ⟨hj, e⟩ := cellsL_get hv
    have hadd : (⟨g, 0, none⟩ : Addr).add j = ⟨g, j, none⟩ := by unfold Addr.add; split <;> simp_all
    rw [hadd]
    refine h.cellAt ?_
    unfold cellsL
    rw [List.getElem?_map, List.getElem?_range (by omega), e, Option.map_some]
    have h2 : fillF t k (j / 2) = t := if_pos (by omega)
    have h3 : fillF l k (j / 2) = l := if_pos (by omega)
    rw [h2, h3])
  rw [fill_step n k _ t l (by omega)] at hr
  exact hr
theorem run_fill0 (w : World) (ty g n gx cx : Nat) (t l : Int) (h : Rn w g n (fun _ => 0) (fun _ => 0)) (hn : 1 ≤ n) (h0 : w.cell? ⟨gx, 0, none⟩ = some (.int .i64 t)) (h1 : w.cell? ⟨gx, 1, none⟩ = some (.int .i64 l)) :
    (Builtin.copy_ #[156, 156] ty #[.slice (some ⟨g, 0, none⟩) n n, .slice (some ⟨gx, 0, none⟩) 1 cx]).run Tryz.prog w =
      .ok (.int .i64 1) (w.setRow g (cellsL n (fillF t 1) (fillF l 1)).toArray) := by
  unfold Rn at h
  rw [fill_zero n t l] at h
  have hr := run_copy2 w ty g 0 n n n 1 ⟨gx, 0, none⟩ 1 cx (fillF t 0) (fillF l 0) (fun _ => t) (fun _ => l) h (Nat.min_eq_left hn).symm (by omega) (fun j v hv => by
    obtain ⟨hj, e⟩ := cellsL_get hv
    have hadd : (⟨gx, 0, none⟩ : Addr).add j = ⟨gx, j, none⟩ := by unfold Addr.add; split <;> simp_all
    rw [hadd, e]
    rcases (by omega : j = 0 ∨ j = 1) with rfl | rfl
    · exact h0
    · exact h1)
  rw [fill_step n 0 1 t l (by omega)] at hr
  exact hr

theorem Rn.row {w : World} {g n : Nat} {t l t' l' : Nat → Int} (h : Rn w g n t l) : Rn (w.setRow g (cellsL n t' l').toArray) g n t' l' := setRow_heap w g _ _ _ _ h

/-- What the slots of the loop's body hold. -/
def rpV (g n k m : Nat) : Nat → Value
  | 0 => .int .i64 (k : Int)
  | 1 => .slice (some ⟨g, 0, none⟩) n n
  | 2 => .int .i64 (k : Int)
  | 3 => .slice (some ⟨g, k * 2, none⟩) (n - k) (n - k)
  | 4 => .slice (some ⟨g, 0, none⟩) n n
  | 5 => .int .i64 (k : Int)
  | 6 => .slice (some ⟨g, 0, none⟩) k n
  | 7 => .int .i64 (m : Int)
  | _ => .int .i64 ((k + m : Nat) : Int)

/-- The loop's body, in whatever order. -/
def RpJ (g n k m : Nat) (wr w2 : World) (b : Nat → Bool) (v : Nat → Value) (wx : World) : Prop :=
  (b 9 = true → ∀ i, i < 9 → b i = true) ∧ (b 9 = false → v 8 = .int .i64 (k : Int)) ∧ (∀ i, i < 9 → b i = true → v (38 + i) = rpV g n k m i) ∧ (b 9 = true → v 8 = .int .i64 ((k + m : Nat) : Int)) ∧ (b 7 = false → ∃ q, wx = wr.drewN q) ∧ (b 7 = true → ∃ q, wx = w2.drewN q)
theorem updB_ne {b : Nat → Bool} {i j : Nat} (h : j ≠ i) : updB b i j = b j := by unfold updB; rw [if_neg h]
theorem updB_eq (b : Nat → Bool) (i : Nat) : updB b i i = true := by unfold updB; rw [if_pos rfl]
theorem updV_ne {v : Nat → Value} {d j : Nat} {x : Value} (h : j ≠ d) : updV v d x j = v j := by unfold updV; rw [if_neg h]
theorem updV_eq (v : Nat → Value) (d : Nat) (x : Value) : updV v d x d = x := by unfold updV; rw [if_pos rfl]
theorem RpJ.put {g n k m i : Nat} {wr w2 wx wy : World} {b : Nat → Bool} {v : Nat → Value} (h : RpJ g n k m wr w2 b v wx) (hi : i < 9) (hb : b i = false)
    (hw : (i ≠ 7 ∧ wy = wx) ∨ (i = 7 ∧ ∃ q, wy = w2.drewN q)) {u : Value} (hu : u = rpV g n k m i) : RpJ g n k m wr w2 (updB b i) (updV v (38 + i) u) wy := by
  obtain ⟨h1, h2, h3, h4, h5, h6⟩ := h
  have h9 : b 9 = false := by
    cases e : b 9 with
    | false => rfl
    | true => rw [h1 e i hi] at hb; cases hb
  have e9 : updB b i 9 = false := (updB_ne (by omega)).trans h9
  refine ⟨fun h => (by rw [e9] at h; cases h), fun _ => ?_, fun j hj hbj => ?_, fun h => (by rw [e9] at h; cases h), fun h7 => ?_, fun h7 => ?_⟩
  · rw [updV_ne (by omega)]
    exact h2 h9
  · by_cases e : j = i
    · subst e
      rw [updV_eq]
      exact hu
    · rw [updV_ne (by omega)]
      rw [updB_ne e] at hbj
      exact h3 j hj hbj
  · rcases hw with ⟨hne, rfl⟩ | ⟨rfl, hq⟩
    · rw [updB_ne (Ne.symm hne)] at h7
      exact h5 h7
    · rw [updB_eq] at h7
      cases h7
  · rcases hw with ⟨hne, rfl⟩ | ⟨rfl, hq⟩
    · rw [updB_ne (Ne.symm hne)] at h7
      exact h6 h7
    · exact hq

theorem step_copy {P : Program} {ops : Array Oper} {o : Oper} {a : Act} {w : World} {K : Act → World → Prop} {Q : Exit → Act → World → Prop} {E : Prop}
    (hg : o.guard = none) (d x : Operand) (dT sT : TypeId) (hop : o.op = Op.call { callee := Callee.builtin Builtin.copy, args := #[d, x], argTypes := #[dT, sT] })
    (v u : Value) (hd : a.eval d = v) (hx : a.eval x = u) {v' : Value} {w' : World} (hr : (Builtin.copy_ #[dT, sT] o.type #[v, u]).run P w = .ok v' w') (hK : K (a.put o.dst v') w') :
    if Region.wanted o (yielded ops a.tmps) = true then Oper.wp P o a w K Q else E := by
  have hw : Region.wanted o (yielded ops a.tmps) = true := by simp [Region.wanted, hg]
  rw [if_pos hw]
  unfold Oper.wp
  simp [execOp, hop, resolve, invoke, builtin, hd, hx, hr, Result.andThen]
  exact hK

def RepPost (n : Nat) (t l : Int) (w : World) (e : Ending) (w' : World) : Prop := ∃ A c, e = .returned (.slice A n c) ∧ n ≤ c ∧ Lnum w' A n (fun _ => t) (fun _ => l) ∧ Below w.heap.size w w'

set_option maxRecDepth 100000 in
set_option maxHeartbeats 4000000 in
theorem repeat_any (gx cx n : Nat) (t l : Int) (w : World) (hn1 : 1 ≤ n) (hn : n ≤ 8) (h0 : w.cell? ⟨gx, 0, none⟩ = some (.int .i64 t)) (h1 : w.cell? ⟨gx, 1, none⟩ = some (.int .i64 l)) (hx : gx < w.heap.size) :
    Calls Tryz.prog 127 #[.slice (some ⟨gx, 0, none⟩) 1 cx, .int .i64 (n : Int)] w (RepPost n t l w) := by
  have H0 := Lib.hid h0
  have H1 := Lib.hid h1
  have b1 : decide ((n : Int) < 0) = false := by simp
  have b2 : decide ((9223372036854775807 : Int) < (n : Int)) = false := by simp; omega
  have hmk := make_nums n (by omega)
  clear h0 h1
  go_enter Tryz.func127, Tryz.ntmps127
  go_wp2_with fail
  (with_reducible refine (mul_small n hn _).mono ?_)
  rintro e w1 ⟨rfl, rfl⟩
  go_upto_region 7 with fail
  generalize hX : w.alloc _ = X
  have HX : Hid (Below w.heap.size w X) := by rw [← hX]; exact below_alloc _ _
  have HR0 : Rn X w.heap.size n (fun _ => 0) (fun _ => 0) := by rw [← hX]; exact Rn.new w n
  have hr := run_fill0 X 3 w.heap.size n gx cx t l HR0 hn1 ((HX.out.cell (p := ⟨gx, 0, none⟩) hx).trans H0.out) ((HX.out.cell (p := ⟨gx, 1, none⟩) hx).trans H1.out)
  have HR : Hid (Rn (X.setRow w.heap.size (cellsL n (fillF t 1) (fillF l 1)).toArray) w.heap.size n (fillF t 1) (fillF l 1)) := HR0.row
  have HB : Hid (Below w.heap.size w (X.setRow w.heap.size (cellsL n (fillF t 1) (fillF l 1)).toArray)) := below_setRow HX.out (Nat.le_refl _) _
  clear hX hmk HR0 b1 b2
  go_wp2_with (with_reducible refine Lib.wpList_copy_run _ rfl (.tmp 31) (.tmp 32) 156 156 rfl _ _ rfl rfl hr ?_)
  clear hr
  generalize X.setRow w.heap.size (cellsL n (fillF t 1) (fillF l 1)).toArray = Y at *
  generalize hg : w.heap.size = g at *
  go_loopw [8] (fun i wr => ∃ k : Nat, Hid (1 ≤ k ∧ k ≤ n) ∧ i = .int .i64 (k : Int) ∧ Hid (Rn wr g n (fillF t k) (fillF l k)) ∧ Hid (Below g w wr)) (fun i _ => n - (intOf i).toNat)
  case atStart => exact ⟨1, Lib.hid ⟨Nat.le_refl _, hn1⟩, rfl, HR, HB⟩
  case round =>
    clear HR HB
    obtain ⟨k, hk, rfl, hR, hB⟩ := hrel
    obtain ⟨hk1, hk2⟩ := hk.out
    by_cases hlt : k < n
    · have hlt' : (k : Int) < (n : Int) := by omega
      have hm : Nat.min k (n - k) ≤ k ∧ Nat.min k (n - k) ≤ n - k ∧ 1 ≤ Nat.min k (n - k) := ⟨Nat.min_le_left _ _, Nat.min_le_right _ _, Nat.le_min.2 ⟨hk1, by omega⟩⟩
      have hrun := fun q => run_fill (wr.drewN q) 3 g k n t l (hR.out.drewN q) hk2
      generalize Nat.min k (n - k) = m at *
      have HRUN := Lib.hid hrun
      clear hrun
      generalize hw2 : wr.setRow g (cellsL n (fillF t (k + m)) (fillF l (k + m))).toArray = w2 at *
      have HR2 : Hid (Rn w2 g n (fillF t (k + m)) (fillF l (k + m))) := by rw [← hw2]; exact hR.out.row
      have HB2 : Hid (Below g w w2) := by rw [← hw2]; exact below_setRow hB.out (Nat.le_refl _) _
      have HD : Hid (∀ q, (wr.drewN q).setRow g (cellsL n (fillF t (k + m)) (fillF l (k + m))).toArray = w2.drewN q) := fun q => by rw [← hw2]; rfl
      clear hw2
      go_upto_region 9 with fail
      refine wp_region_inv3 [38, 39, 40, 41, 42, 43, 44, 45, 46, 8] (RpJ g n k m wr w2) (by kernel_rfl) (by kernel_rfl) (by kernel_rfl) ?_ ?_ ?_
      · exact ⟨fun h => Bool.noConfusion h, fun _ => rfl, fun i _ h => Bool.noConfusion h, fun h => Bool.noConfusion h, fun _ => ⟨1, rfl⟩, fun h => Bool.noConfusion h⟩
      · intro i bb v wx o T' K ho hdep hbi hJ hin hout K1 K2
        have hi : i < 10 := (Array.getElem?_eq_some_iff.1 ho).1
        have q8 := hin 8 (by decide)
        have q38 := hin 38 (by decide)
        have q39 := hin 39 (by decide)
        have q40 := hin 40 (by decide)
        have q41 := hin 41 (by decide)
        have q42 := hin 42 (by decide)
        have q43 := hin 43 (by decide)
        have q44 := hin 44 (by decide)
        have q45 := hin 45 (by decide)
        have q46 := hin 46 (by decide)
        have q7 := (hout 7 (by decide)).trans rfl
        have HJ := Lib.hid hJ
        have HDEP := Lib.hid hdep
        have HK1 := Lib.hid K1
        have HBI := Lib.hid hbi
        clear hin hout hJ hdep K1 K2 hbi
        have h9 : i < 9 → bb 9 = false := fun h => by
          cases e : bb 9 with
          | false => rfl
          | true => have h2 := HJ.out.1 e i h; rw [HBI.out] at h2; cases h2
        have H9 := Lib.hid h9
        clear h9
        rcases (by omega : i = 0 ∨ i = 1 ∨ i = 2 ∨ i = 3 ∨ i = 4 ∨ i = 5 ∨ i = 6 ∨ i = 7 ∨ i = 8 ∨ i = 9) with rfl | rfl | rfl | rfl | rfl | rfl | rfl | rfl | rfl | rfl
        · obtain rfl := Option.some.inj ho
          have e8 := HJ.out.2.1 (H9.out (by omega))
          rw [e8] at q8
          clear e8
          clear ho hi
          go_simp
          exact HK1.out 38 _ _ (by decide) (HJ.out.put (i := 0) (by omega) HBI.out (Or.inl ⟨by omega, rfl⟩) rfl)
        · obtain rfl := Option.some.inj ho
          clear ho hi
          go_simp
          exact HK1.out 39 _ _ (by decide) (HJ.out.put (i := 1) (by omega) HBI.out (Or.inl ⟨by omega, rfl⟩) rfl)
        · obtain rfl := Option.some.inj ho
          have e8 := HJ.out.2.1 (H9.out (by omega))
          rw [e8] at q8
          clear e8
          clear ho hi
          go_simp
          exact HK1.out 40 _ _ (by decide) (HJ.out.put (i := 2) (by omega) HBI.out (Or.inl ⟨by omega, rfl⟩) rfl)
        · obtain rfl := Option.some.inj ho
          have e39 : v 39 = rpV g n k m 1 := HJ.out.2.2.1 1 (by omega) (HDEP.out ⟨1, .data⟩ (by simp) rfl)
          simp only [rpV] at e39
          rw [e39] at q39
          clear e39
          have e40 : v 40 = rpV g n k m 2 := HJ.out.2.2.1 2 (by omega) (HDEP.out ⟨2, .data⟩ (by simp) rfl)
          simp only [rpV] at e40
          rw [e40] at q40
          clear e40
          clear ho hi
          go_simp
          exact HK1.out 41 _ _ (by decide) (HJ.out.put (i := 3) (by omega) HBI.out (Or.inl ⟨by omega, rfl⟩) (by rw [if_neg (by omega)]; rfl))
        · obtain rfl := Option.some.inj ho
          clear ho hi
          go_simp
          exact HK1.out 42 _ _ (by decide) (HJ.out.put (i := 4) (by omega) HBI.out (Or.inl ⟨by omega, rfl⟩) rfl)
        · obtain rfl := Option.some.inj ho
          have e8 := HJ.out.2.1 (H9.out (by omega))
          rw [e8] at q8
          clear e8
          clear ho hi
          go_simp
          exact HK1.out 43 _ _ (by decide) (HJ.out.put (i := 5) (by omega) HBI.out (Or.inl ⟨by omega, rfl⟩) rfl)
        · obtain rfl := Option.some.inj ho
          have e42 : v 42 = rpV g n k m 4 := HJ.out.2.2.1 4 (by omega) (HDEP.out ⟨4, .data⟩ (by simp) rfl)
          simp only [rpV] at e42
          rw [e42] at q42
          clear e42
          have e43 : v 43 = rpV g n k m 5 := HJ.out.2.2.1 5 (by omega) (HDEP.out ⟨5, .data⟩ (by simp) rfl)
          simp only [rpV] at e43
          rw [e43] at q43
          clear e43
          clear ho hi
          go_simp
          exact HK1.out 44 _ _ (by decide) (HJ.out.put (i := 6) (by omega) HBI.out (Or.inl ⟨by omega, rfl⟩) rfl)
        · obtain rfl := Option.some.inj ho
          have e41 : v 41 = rpV g n k m 3 := HJ.out.2.2.1 3 (by omega) (HDEP.out ⟨3, .data⟩ (by simp) rfl)
          simp only [rpV] at e41
          rw [e41] at q41
          clear e41
          have e44 : v 44 = rpV g n k m 6 := HJ.out.2.2.1 6 (by omega) (HDEP.out ⟨6, .data⟩ (by simp) rfl)
          simp only [rpV] at e44
          rw [e44] at q44
          clear e44
          obtain ⟨q, rfl⟩ := HJ.out.2.2.2.2.1 HBI.out
          have hcp := HRUN.out q
          rw [HD.out q] at hcp
          clear ho hi
          refine step_copy (a := ⟨T', []⟩) rfl (.tmp 41) (.tmp 44) 156 156 rfl (.slice (some ⟨g, k * 2, none⟩) (n - k) (n - k)) (.slice (some ⟨g, 0, none⟩) k n) (by simp [go_sem, q41]) (by simp [go_sem, q44]) hcp ?_
          go_simp
          exact HK1.out 45 _ _ (by decide) (HJ.out.put (i := 7) (by omega) HBI.out (Or.inr ⟨rfl, q, rfl⟩) rfl)
        · obtain rfl := Option.some.inj ho
          have e38 : v 38 = rpV g n k m 0 := HJ.out.2.2.1 0 (by omega) (HDEP.out ⟨0, .data⟩ (by simp) rfl)
          simp only [rpV] at e38
          rw [e38] at q38
          clear e38
          have e45 : v 45 = rpV g n k m 7 := HJ.out.2.2.1 7 (by omega) (HDEP.out ⟨7, .data⟩ (by simp) rfl)
          simp only [rpV] at e45
          rw [e45] at q45
          clear e45
          have hsum : IntKind.i64.wrap ((k : Int) + (m : Int)) = ((k + m : Nat) : Int) := by rw [IntKind.wrap_i64]; omega
          clear ho hi
          go_simp
          exact HK1.out 46 _ _ (by decide) (HJ.out.put (i := 8) (by omega) HBI.out (Or.inl ⟨by omega, rfl⟩) rfl)
        · obtain rfl := Option.some.inj ho
          have e46 : v 46 = rpV g n k m 8 := HJ.out.2.2.1 8 (by omega) (HDEP.out ⟨8, .data⟩ (by simp) rfl)
          simp only [rpV] at e46
          rw [e46] at q46
          clear e46
          clear ho hi
          go_simp
          refine HK1.out 8 _ _ (by decide) ?_
          have hall : ∀ i, i < 9 → bb i = true := fun i hi => by
            rcases (by omega : i = 0 ∨ i = 1 ∨ i = 2 ∨ i = 3 ∨ i = 4 ∨ i = 5 ∨ i = 6 ∨ i = 7 ∨ i = 8) with rfl | rfl | rfl | rfl | rfl | rfl | rfl | rfl | rfl <;> exact HDEP.out ⟨_, .phase⟩ (by simp) rfl
          exact ⟨fun _ i hi => (updB_ne (by omega)).trans (hall i hi), fun h => (by rw [updB_eq] at h; cases h), fun i hi _ => (updV_ne (by omega)).trans (HJ.out.2.2.1 i hi (hall i hi)), fun _ => updV_eq _ _ _,
            fun h => (by rw [updB_ne (by omega), hall 7 (by omega)] at h; cases h), fun _ => HJ.out.2.2.2.2.2 (hall 7 (by omega))⟩
      · intro bb v wx hall hJ
        obtain ⟨-, -, -, h4, -, h6⟩ := hJ
        have e8 := h4 (hall 9 (by simp))
        obtain ⟨q, hq⟩ := h6 (hall 7 (by simp))
        clear h4 h6 hall HRUN HD hR hB
        have HR3 : Hid (Rn wx g n (fillF t (k + m)) (fillF l (k + m))) := by rw [hq]; exact HR2.out
        have HB3 : Hid (Below g w wx) := by rw [hq]; exact HB2.out.trans (Drn.below ⟨q, rfl⟩ _)
        clear hq HR2 HB2
        simp only [over, List.setIfInBounds_toArray, List.set_cons_zero, List.set_cons_succ]
        rw [e8]
        generalize v 38 = v38
        generalize v 39 = v39
        generalize v 40 = v40
        generalize v 41 = v41
        generalize v 42 = v42
        generalize v 43 = v43
        generalize v 44 = v44
        generalize v 45 = v45
        generalize v 46 = v46
        clear e8
        go_wp2_with fail
        exact ⟨⟨k + m, Lib.hid ⟨by omega, by omega⟩, rfl, HR3, HB3⟩, by simp [intOf]; omega⟩
    · have hke : k = n := by omega
      have HF : Hid (Lnum wr (some ⟨g, 0, none⟩) n (fun _ => t) (fun _ => l)) := by
        have e : cellsL n (fillF t k) (fillF l k) = cellsL n (fun _ => t) (fun _ => l) := cellsL_congr (fun i hi => if_pos (by omega)) (fun i hi => if_pos (by omega))
        have h := hR.out
        unfold Rn at h
        rw [e] at h
        exact Rn.num h
      have hlt' : ¬ (k : Int) < (n : Int) := by omega
      clear hke hR hk
      go_wp2_with fail
      go_ret
      exact ⟨some ⟨g, 0, none⟩, n, rfl, Nat.le_refl _, HF.out, by rw [hg]; exact hB.out⟩

end Go.Proofs.YtabaknkjcoibpaaGreatDoor

namespace Go.Proofs.YtabaknkjcoibpaaGreatDoor
open Go.RowKit

theorem RetR.long {x : Rat} {w : World} {e : Ending} {w' : World} (h : RetR x w e w') (hx : x.num.natAbs < W ^ 1000 ∧ x.den < W ^ 1000) :
    ∃ A n c B m d, e = .returned (.agg #[.bool (decide (x.num < 0)), .slice A n c, .bool false, .slice B m d]) ∧ Q w' (decide (x.num < 0)) (.slice A n c) (.slice B m d) x ∧ n ≤ 1000 ∧ m ≤ 1000 ∧ Below w.heap.size w w' := by
  obtain ⟨A, n, c, B, m, d, rfl, h1, h2, h3⟩ := h
  exact ⟨A, n, c, B, m, d, rfl, RetR.q h1 h2, h1.len hx.1, h2.len hx.2, h3⟩

/-- What a sum of products is made of. -/
def Pr (t l t' l' : Nat → Int) (i : Nat) : Rat := fr (t i) (l i) * fr (t' i) (l' i)

set_option maxRecDepth 100000 in
set_option maxHeartbeats 8000000 in
theorem dot_one (A B : Option Addr) (ca cb : Nat) (t l t' l' : Nat → Int) (w : World) (hA : Lnum w A 1 t l) (hB : Lnum w B 1 t' l') (hv : vld (t 0) (l 0) = true) (hv' : vld (t' 0) (l' 0) = true) :
    Calls Tryz.prog 151 #[.slice A 1 ca, .slice B 1 cb] w (RetR (Pr t l t' l' 0) w) := by
  obtain ⟨b, off, rfl, hb, hcA⟩ := hA (by omega)
  obtain ⟨b', off', rfl, hb', hcB⟩ := hB (by omega)
  obtain ⟨a0, a1⟩ := hcA 0 (by omega)
  obtain ⟨a2, a3⟩ := hcB 0 (by omega)
  obtain ⟨x, hx1, hx2, hx3⟩ := vld_rat hv
  obtain ⟨y, hy1, hy2, hy3⟩ := vld_rat hv'
  have e : Pr t l t' l' 0 = x * y := by unfold Pr; rw [hx3, hy3]
  rw [e]
  rw [← hx1] at a0
  rw [← hx2] at a1
  rw [← hy1] at a2
  rw [← hy2] at a3
  have lx := vld_le (x := x) (by rw [hx1, hx2]; exact hv)
  have ly := vld_le (x := y) (by rw [hy1, hy2]; exact hv')
  have HX : Hid (∀ wx, Calls Tryz.prog 184 #[.agg #[.int .i64 x.num, .int .i64 (x.den : Int)]] wx (RetR x wx)) := fun wx => of_any x wx (by omega) (by omega) (by omega)
  have HY : Hid (∀ wx, Calls Tryz.prog 184 #[.agg #[.int .i64 y.num, .int .i64 (y.den : Int)]] wx (RetR y wx)) := fun wx => of_any y wx (by omega) (by omega) (by omega)
  have HM : Hid (∀ wx b1 A1 n1 c1 B1 m1 d1 b2 A2 n2 c2 B2 m2 d2, Q wx b1 (.slice A1 n1 c1) (.slice B1 m1 d1) x → Q wx b2 (.slice A2 n2 c2) (.slice B2 m2 d2) y →
      Calls Tryz.prog 185 #[.agg #[.bool b1, .slice A1 n1 c1, .bool false, .slice B1 m1 d1], .agg #[.bool b2, .slice A2 n2 c2, .bool false, .slice B2 m2 d2]] wx (RetR (x * y) wx)) := fun wx b1 A1 n1 c1 B1 m1 d1 b2 A2 n2 c2 B2 m2 d2 h1 h2 =>
    mulR_any b1 b2 A1 B1 A2 B2 n1 c1 m1 d1 n2 c2 m2 d2 x y wx h1 h2 (by have := len2 h1.2.1 lx.1; omega) (by have := len2 h1.2.2 lx.2; omega) (by have := len2 h2.2.1 ly.1; omega) (by have := len2 h2.2.2 ly.2; omega) (by omega) (by omega)
  clear e hx1 hx2 hx3 hy1 hy2 hy3 lx ly hv hv' hA hB hcA hcB
  generalize x * y = z at HM ⊢
  rw [Nat.zero_mul, Nat.add_zero] at a0 a1 a2 a3
  go_enter Tryz.func151, Tryz.ntmps151
  go_wp2_with fail
  generalize hX : w.alloc _ = X
  have hwX : Below w.heap.size w X := by rw [← hX]; exact below_alloc _ _
  have hWX : Wr4 w.heap.size 185 X := by rw [← hX]; exact Wr4.new _ _ _ _ _ 185 rfl
  replace a0 := (hwX.cell (p := ⟨b, off, none⟩) hb).trans a0
  replace a1 := (hwX.cell (p := ⟨b, off + 1, none⟩) hb).trans a1
  replace a2 := (hwX.cell (p := ⟨b', off', none⟩) hb').trans a2
  replace a3 := (hwX.cell (p := ⟨b', off' + 1, none⟩) hb').trans a3
  have zb := Nat.lt_of_lt_of_le hb hwX.size
  have zb' := Nat.lt_of_lt_of_le hb' hwX.size
  have nb : b ≠ w.heap.size := by omega
  have nb' : b' ≠ w.heap.size := by omega
  clear hX
  have HWX := Lib.hid hWX
  have HwX := Lib.hid hwX
  clear hWX hwX hb hb'
  go_region_held3 (fun w' => w'.cell? ⟨b, off, none⟩ = some (.int .i64 x.num) ∧ w'.cell? ⟨b, off + 1, none⟩ = some (.int .i64 (x.den : Int)) ∧ w'.cell? ⟨b', off', none⟩ = some (.int .i64 y.num) ∧ w'.cell? ⟨b', off' + 1, none⟩ = some (.int .i64 (y.den : Int))) (simp [go_sem, *])
    (first
      | (go_at_call 184; (with_reducible refine (HX.out _).mono ?_); rintro e w1 ⟨A1, n1, c1, B1, m1, d1, rfl, hQ1, hQ1', hB1⟩; (have R1 : Below X.heap.size X w1 := stepB (by repeat (first | exact Below.refl _ _ | refine Below.drew ?_)) hB1); (have C1 := (bcell R1).1); (have v1 := Nat.lt_of_lt_of_le zb R1.size); (have v1' := Nat.lt_of_lt_of_le zb' R1.size))
      | (go_at_call 184; (with_reducible refine (HY.out _).mono ?_); rintro e w2 ⟨A2, n2, c2, B2, m2, d2, rfl, hQ2, hQ2', hB2⟩; (have R2 : Below X.heap.size X w2 := stepB (by repeat (first | exact R1 | refine Below.drew ?_)) hB2); (have S2 : Below w1.heap.size w1 w2 := stepB (by repeat (first | exact Below.refl _ _ | refine Below.drew ?_)) hB2); (have C2 := (bcell R2).1); (have v2 := Nat.lt_of_lt_of_le zb R2.size); (have v2' := Nat.lt_of_lt_of_le zb' R2.size))
      | (go_at_call 185; (with_reducible refine (HM.out _ _ _ _ _ _ _ _ _ _ _ _ _ _ _ (by repeat (first | exact (RetR.q hQ1 hQ1').keep S2 | refine Q.keep ?_ (Below.drew (Below.refl _ _)))) (by repeat (first | exact RetR.q hQ2 hQ2' | refine Q.keep ?_ (Below.drew (Below.refl _ _))))).mono ?_); rintro e w3 ⟨A3, n3, c3, B3, m3, d3, rfl, hQ3, hQ3', hB3⟩; (have R3 : Below X.heap.size X w3 := stepB (by repeat (first | exact R2 | refine Below.drew ?_)) hB3); (have C3 := (bcell R3).1); (have v3 := Nat.lt_of_lt_of_le zb R3.size); (have v3' := Nat.lt_of_lt_of_le zb' R3.size); (have hW3 := HWX.out.keep R3); obtain ⟨⟨p1, p2, p3, p4, q1, q2, q3, q4⟩, f1, f2, f3, f4, hbx⟩ := id hW3))
  go_wp2_with fail
  exact bodyPost_ret (v := .agg #[.bool (decide (z.num < 0)), .slice A3 n3 c3, .bool false, .slice B3 m3 d3]) (by simp [results, Tryz.results151, go_sem, *]) rfl
    (retR_box hQ3 hQ3' hbx (HwX.out.trans (R3.mono HwX.out.size)) (Nat.le_refl _) (Drn.refl _))

theorem Lnum.take {w : World} {A : Option Addr} {n k : Nat} {t l : Nat → Int} (h : Lnum w A n t l) (hk : k ≤ n) : Lnum w A k t l := fun h0 => by
  obtain ⟨b, off, e, hb, hc⟩ := h (by omega)
  exact ⟨b, off, e, hb, fun i hi => hc i (by omega)⟩
theorem Lnum.drop {w : World} {b off n k : Nat} {t l : Nat → Int} (h : Lnum w (some ⟨b, off, none⟩) n t l) : Lnum w (some ⟨b, off + k * 2, none⟩) (n - k) (fun i => t (k + i)) (fun i => l (k + i)) := fun h0 => by
  obtain ⟨b', off', e, hb, hc⟩ := h (by omega)
  injection e with e
  injection e with e1 e2
  subst e1 e2
  refine ⟨b, _, rfl, hb, fun i hi => ?_⟩
  have := hc (k + i) (by omega)
  rw [Nat.add_mul, ← Nat.add_assoc] at this
  exact this

/-- The contract of exact.Dot for lists of n numbers. -/
def DotOk (n : Nat) : Prop := ∀ (A B : Option Addr) (ca cb : Nat) (t l t' l' : Nat → Int) (w : World), Lnum w A n t l → Lnum w B n t' l' → (∀ i, i < n → vld (t i) (l i) = true) → (∀ i, i < n → vld (t' i) (l' i) = true) → n ≤ ca → n ≤ cb →
  Calls Tryz.prog 151 #[.slice A n ca, .slice B n cb] w (RetR (sumQ (Pr t l t' l') n) w)

theorem pr_bd {t l t' l' : Nat → Int} {i : Nat} (hv : vld (t i) (l i) = true) (hv' : vld (t' i) (l' i) = true) : Bd (Pr t l t' l' i) (2 ^ 120) (2 ^ 120) := by
  obtain ⟨x, hx1, hx2, hx3⟩ := vld_rat hv
  obtain ⟨y, hy1, hy2, hy3⟩ := vld_rat hv'
  unfold Pr
  rw [hx3, hy3]
  exact Bd.prod (by rw [hx1, hx2]; exact hv) (by rw [hy1, hy2]; exact hv')

set_option maxRecDepth 100000 in
set_option maxHeartbeats 8000000 in
theorem dot_many (n h : Nat) (hn : n ≤ 200) (h2 : 2 ≤ n) (hh : h = n / 2) (ih : DotOk h) (ih' : DotOk (n - h)) : DotOk n := by
  intro A B ca cb t l t' l' w hA hB hv hv' hca hcb
  obtain ⟨b, off, rfl, hb, -⟩ := hA (by omega)
  obtain ⟨b', off', rfl, hb', -⟩ := hB (by omega)
  obtain ⟨x, hx⟩ : ∃ x, sumQ (Pr t l t' l') h = x := ⟨_, rfl⟩
  obtain ⟨y, hy⟩ : ∃ y, sumQ (Pr (fun i => t (h + i)) (fun i => l (h + i)) (fun i => t' (h + i)) (fun i => l' (h + i))) (n - h) = y := ⟨_, rfl⟩
  have hz : sumQ (Pr t l t' l') n = x + y := by
    have := sumQ_split (Pr t l t' l') h (n - h)
    rw [show h + (n - h) = n from by omega] at this
    rw [this, hx, ← hy]
    rfl
  have HX : Hid (∀ wx, Below w.heap.size w wx → Calls Tryz.prog 151 #[.slice (some ⟨b, off, none⟩) h ca, .slice (some ⟨b', off', none⟩) h cb] wx (RetR x wx)) := fun wx hx' => by
    have := ih (some ⟨b, off, none⟩) (some ⟨b', off', none⟩) ca cb t l t' l' wx ((hA.take (by omega)).keep hx') ((hB.take (by omega)).keep hx') (fun i hi => hv i (by omega)) (fun i hi => hv' i (by omega)) (by omega) (by omega)
    rw [hx] at this
    exact this
  have HY : Hid (∀ wx, Below w.heap.size w wx → Calls Tryz.prog 151 #[.slice (some ⟨b, off + h * 2, none⟩) (n - h) (ca - h), .slice (some ⟨b', off' + h * 2, none⟩) (n - h) (cb - h)] wx (RetR y wx)) := fun wx hx' => by
    have := ih' (some ⟨b, off + h * 2, none⟩) (some ⟨b', off' + h * 2, none⟩) (ca - h) (cb - h) _ _ _ _ wx (hA.drop (k := h) |>.keep hx') (hB.drop (k := h) |>.keep hx') (fun i hi => hv (h + i) (by omega)) (fun i hi => hv' (h + i) (by omega)) (by omega) (by omega)
    rw [hy] at this
    exact this
  have lx : x.num.natAbs < W ^ 1000 ∧ x.den < W ^ 1000 := by
    rw [← hx]
    exact Bd.dot (by omega) fun i hi => pr_bd (hv i (by omega)) (hv' i (by omega))
  have ly : y.num.natAbs < W ^ 1000 ∧ y.den < W ^ 1000 := by
    rw [← hy]
    exact Bd.dot (by omega) fun i hi => pr_bd (hv (h + i) (by omega)) (hv' (h + i) (by omega))
  have HM : Hid (∀ wx b1 A1 n1 c1 B1 m1 d1 b2 A2 n2 c2 B2 m2 d2, Q wx b1 (.slice A1 n1 c1) (.slice B1 m1 d1) x → Q wx b2 (.slice A2 n2 c2) (.slice B2 m2 d2) y →
      Calls Tryz.prog 186 #[.agg #[.bool b1, .slice A1 n1 c1, .bool false, .slice B1 m1 d1], .agg #[.bool b2, .slice A2 n2 c2, .bool false, .slice B2 m2 d2]] wx (RetR (x + y) wx)) := fun wx b1 A1 n1 c1 B1 m1 d1 b2 A2 n2 c2 B2 m2 d2 h1 h2 =>
    addR_all b1 b2 A1 B1 A2 B2 n1 c1 m1 d1 n2 c2 m2 d2 x y wx h1 h2 (by have := h1.2.1.len lx.1; omega) (by have := h1.2.2.len lx.2; omega) (by have := h2.2.1.len ly.1; omega) (by have := h2.2.2.len ly.2; omega)
  rw [hz]
  clear hz hx hy lx ly hA hB hv hv' ih ih' hb hb'
  generalize x + y = z at HM ⊢
  have hn0 : ((n : Int) == 0) = false := by rw [beq_eq_false_iff_ne]; omega
  have hn1 : ((n : Int) == 1) = false := by rw [beq_eq_false_iff_ne]; omega
  have hq : (n : Int) / 2 = (h : Int) := by omega
  have hi1 : (h : Int) ≤ (n : Int) := by omega
  have hi2 : (n : Int) ≤ (ca : Int) := by omega
  have hi3 : (n : Int) ≤ (cb : Int) := by omega
  have hi4 : (h : Int) ≤ (ca : Int) := by omega
  have hi5 : (h : Int) ≤ (cb : Int) := by omega
  have hi6 : ¬ ca = h := by omega
  have hi7 : ¬ cb = h := by omega
  clear hh h2
  go_enter Tryz.func151, Tryz.ntmps151
  go_wp2_with fail
  generalize hX : w.alloc _ = X
  have hwX : Below w.heap.size w X := by rw [← hX]; exact below_alloc _ _
  have hWX : Wr4 w.heap.size 185 X := by rw [← hX]; exact Wr4.new _ _ _ _ _ 185 rfl
  clear hX
  have HWX := Lib.hid hWX
  have HwX := Lib.hid hwX
  clear hWX hwX
  obtain ⟨-, gf1, gf2, gf3, gf4, hbX⟩ := id HWX.out
  have zX : w.heap.size < X.heap.size := by obtain ⟨cs, fr, hc⟩ := hbX; exact lt_of_heap hc
  clear hbX
  go_region_held3 (fun w' => w'.frozen? ⟨w.heap.size, 0, none⟩ = false ∧ w'.frozen? ⟨w.heap.size, 1, none⟩ = false) (simp [go_sem, *])
    (first
      | (go_at_call 151; (with_reducible refine (HX.out _ (by repeat (first | exact HwX.out | refine Below.drew ?_))).mono ?_); rintro e w1 ⟨A1, n1, c1, B1, m1, d1, rfl, hQ1, hQ1', hB1⟩; (have R1 : Below X.heap.size X w1 := stepB (by repeat (first | exact Below.refl _ _ | refine Below.drew ?_)) hB1); (have C1 := (bcell R1).2); (have v1 := Nat.lt_of_lt_of_le zX R1.size); (have T1 := HwX.out.trans (R1.mono HwX.out.size)))
      | (go_at_call 151; (with_reducible refine (HY.out _ (by repeat (first | exact T1 | refine Below.drew ?_))).mono ?_); rintro e w2 ⟨A2, n2, c2, B2, m2, d2, rfl, hQ2, hQ2', hB2⟩; (have R2 : Below X.heap.size X w2 := stepB (by repeat (first | exact R1 | refine Below.drew ?_)) hB2); (have C2 := (bcell R2).2); (have v2 := Nat.lt_of_lt_of_le zX R2.size); (have S2 : Below w1.heap.size w1 w2 := stepB (by repeat (first | exact Below.refl _ _ | refine Below.drew ?_)) hB2))
      | (go_at_call 186; (with_reducible refine (HM.out _ _ _ _ _ _ _ _ _ _ _ _ _ _ _ (by repeat (first | exact (RetR.q hQ1 hQ1').keep S2 | refine Q.keep ?_ (Below.drew (Below.refl _ _)))) (by repeat (first | exact RetR.q hQ2 hQ2' | refine Q.keep ?_ (Below.drew (Below.refl _ _))))).mono ?_); rintro e w3 ⟨A3, n3, c3, B3, m3, d3, rfl, hQ3, hQ3', hB3⟩; (have R3 : Below X.heap.size X w3 := stepB (by repeat (first | exact R2 | refine Below.drew ?_)) hB3); (have hW3 := HWX.out.keep R3); obtain ⟨⟨p1, p2, p3, p4, q1, q2, q3, q4⟩, f1, f2, f3, f4, hbx⟩ := id hW3))
  go_wp2_with fail
  exact bodyPost_ret (v := .agg #[.bool (decide (z.num < 0)), .slice A3 n3 c3, .bool false, .slice B3 m3 d3]) (by simp [results, Tryz.results151, go_sem, *]) rfl
    (retR_box hQ3 hQ3' hbx (HwX.out.trans (R3.mono HwX.out.size)) (Nat.le_refl _) (Drn.refl _))

/-- exact.Dot, for lists of 1 to 200 numbers. -/
theorem dot_any : ∀ n, 0 < n → n ≤ 200 → DotOk n := by
  intro n
  induction n using Nat.strongRecOn with
  | ind n ih =>
    intro h0 h1
    by_cases h2 : n = 1
    · subst h2
      intro A B ca cb t l t' l' w hA hB hv hv' _ _
      rw [sumQ_one]
      exact dot_one A B ca cb t l t' l' w hA hB (hv 0 (by omega)) (hv' 0 (by omega))
    · exact dot_many n (n / 2) h1 (by omega) rfl (ih (n / 2) (by omega) (by omega) (by omega)) (ih (n - n / 2) (by omega) (by omega) (by omega))

end Go.Proofs.YtabaknkjcoibpaaGreatDoor
