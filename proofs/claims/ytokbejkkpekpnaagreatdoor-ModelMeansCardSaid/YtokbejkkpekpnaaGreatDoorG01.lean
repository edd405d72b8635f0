/- diceboxlaw04.ModelMeans returns true for all models, lists, players and numbers. -/
import Derived.Test.YtokbejkkpekpnaaGreatDoorF44
import Derived.Test.YtokbejkkpekpnaaGreatDoorF40
import Derived.Test.YtokbejkkpekpnaaGreatDoorG00
import Derived.Test.YtokbejkkpekpnaaGreatDoorF37
import Derived.Deep.DeepCutAuto
import Derived.Deep.CutBlock
import Derived.Deep.CutRange

set_option maxRecDepth 100000
set_option maxHeartbeats 40000000
namespace Go.Proofs.YtokbejkkpekpnaaGreatDoor
open Go.RowKit
theorem rlist_two (A B : Option Addr) (n ca cb : Nat) (f g : Nat → Int) (w : World) (hn : n ≤ 1000000) (hA : Lin w A n f) (hB : Lin w B n g) :
    Calls Tryz.prog 35 #[.slice A n ca, .slice B n cb] w fun e w' => e = .returned (.bool (allB (fun i => decide (f i = g i)) n)) ∧ Below w.heap.size w w' := by
  have HA := Lib.hid hA
  have HB := Lib.hid hB
  have hb : ((n : Int) != (n : Int)) = false := by simp
  clear hA hB
  go_enter Tryz.func35, Tryz.ntmps35
  go_wp2_with fail
  go_loopw [13] (fun i wr => ∃ k : Nat, Hid (k ≤ n) ∧ i = .int .i64 (k : Int) ∧ Hid (∀ j, j < k → f j = g j) ∧ Hid (Drn w wr)) (fun i _ => n - (intOf i).toNat)
  case atStart => exact ⟨0, Nat.zero_le _, rfl, Lib.hid (fun i hi => absurd hi (by omega)), Lib.hid (Drn.refl _)⟩
  case round =>
    obtain ⟨k, hk, rfl, hv, hD⟩ := hrel
    by_cases hlt : k < n
    · obtain ⟨b, off, rfl, hb1, hcA⟩ := HA.out.keep (hD.out.below _) (by omega)
      obtain ⟨b', off', rfl, hb2, hcB⟩ := HB.out.keep (hD.out.below _) (by omega)
      have a0 := hcA k hlt
      have a2 := hcB k hlt
      have HFG := Lib.hid (show f k = f k ∧ g k = g k from ⟨rfl, rfl⟩)
      obtain ⟨x, hx⟩ : ∃ x, f k = x := ⟨_, rfl⟩
      obtain ⟨y, hy⟩ : ∃ y, g k = y := ⟨_, rfl⟩
      rw [hx] at a0
      rw [hy] at a2
      have HX := Lib.hid hx
      have HY := Lib.hid hy
      have hlt' : (k : Int) < (n : Int) := by omega
      clear hcA hcB hx hy HFG
      by_cases hxy : x = y
      · have HV : Hid (∀ j, j < k + 1 → f j = g j) := Lib.hid fun j hj => by
          by_cases e : j = k
          · rw [e, HX.out, HY.out]; exact hxy
          · exact hv.out j (by omega)
        subst hxy
        clear hv
        go_wp2_with fail
        go_quiet (fail)
        go_wp2_with fail
        exact ⟨⟨k + 1, Lib.hid (by omega), by rw [show ((k + 1 : Nat) : Int) = (k : Int) + 1 from by omega], HV, Lib.hid (hD.out.more _)⟩, by simp [intOf]; omega⟩
      · have HE : Hid (allB (fun i => decide (f i = g i)) n = false) := Lib.hid (allB_false hlt (by rw [HX.out, HY.out, decide_eq_false hxy]))
        clear hv
        go_wp2_with fail
        go_quiet (fail)
        go_wp2_with fail
        go_ret
        exact ⟨by rw [HE.out]; rfl, hD.out.more _ |>.below _⟩
    · have hke : k = n := by have := hk.out; omega
      have hlt' : ¬ (k : Int) < (n : Int) := by omega
      have HE : Hid (allB (fun i => decide (f i = g i)) n = true) := Lib.hid (allB_true fun i hi => decide_eq_true (hv.out i (by omega)))
      clear hke hv
      go_wp2_with fail
      go_ret
      exact ⟨by rw [HE.out]; rfl, hD.out.below _⟩
def Own1 (w : World) (g n : Nat) (f : Nat → Int) : Prop := ∃ cur, w.heap[g]? = some (.cells cur 3 (0, 0)) ∧ ∀ i, i < n → cur[i]? = some (.int .i64 (f i))
theorem Own1.cell {w : World} {g n : Nat} {f : Nat → Int} (h : Own1 w g n f) {i : Nat} (hi : i < n) : w.cell? ⟨g, i, none⟩ = some (.int .i64 (f i)) := by
  obtain ⟨cur, hb, hc⟩ := h
  simp [World.cell?, hb, hc i hi]
theorem Own1.frz {w : World} {g n : Nat} {f : Nat → Int} (h : Own1 w g n f) (i : Nat) : w.frozen? ⟨g, i, none⟩ = false := by
  obtain ⟨cur, hb, hc⟩ := h
  simp [World.frozen?, hb]
theorem Own1.lt {w : World} {g n : Nat} {f : Nat → Int} (h : Own1 w g n f) : g < w.heap.size := by
  obtain ⟨cur, hb, -⟩ := h
  exact lt_of_heap hb
theorem Own1.set {w : World} {g n : Nat} {f : Nat → Int} (h : Own1 w g n f) (i : Nat) (x : Int) : Own1 (w.setCell ⟨g, i, none⟩ (.int .i64 x)) g n (fun j => if j = i then x else f j) := by
  obtain ⟨cur, hb, hc⟩ := h
  refine ⟨cur.setIfInBounds i (.int .i64 x), by simp [World.setCell, Array.getElem?_modify, hb], fun j hj => ?_⟩
  have hs := Array.getElem?_eq_some_iff.1 (hc j hj)
  rw [Array.getElem?_setIfInBounds]
  show _ = some (Value.int .i64 (if j = i then x else f j))
  by_cases e : j = i
  · subst e
    rw [if_pos rfl, if_pos hs.1, if_pos rfl]
  · rw [if_neg (Ne.symm e), if_neg e]
    exact hc j hj
theorem Own1.congr {w : World} {g n : Nat} {f f' : Nat → Int} (h : Own1 w g n f) (e : ∀ i, i < n → f i = f' i) : Own1 w g n f' := by
  obtain ⟨cur, hb, hc⟩ := h
  exact ⟨cur, hb, fun i hi => by rw [hc i hi, e i hi]⟩
theorem Own1.lin {w : World} {g n : Nat} {f : Nat → Int} (h : Own1 w g n f) : Lin w (some ⟨g, 0, none⟩) n f := fun _ => ⟨g, 0, rfl, h.lt, fun i hi => by rw [Nat.zero_add]; exact h.cell hi⟩
theorem run_copyI (w : World) (ty g : Nat) (A : Option Addr) (n ca : Nat) (f : Nat → Int) (hA : Lin w A n f) (h0 : 0 < n) (hn : n ≤ 1000) :
    ∃ c' w', (Builtin.append_ #[25, 25] ty #[.slice (some ⟨g, 0, none⟩) 0 0, .slice A n ca]).run Tryz.prog w = .ok (.slice (some ⟨w.heap.size, 0, none⟩) n c') w' ∧ Own1 w' w.heap.size n f ∧ Below w.heap.size w w' := by
  obtain ⟨i, hi, hz, hs, hb⟩ := info_open infoInt
  obtain ⟨b, off, hA1, hbl, hc⟩ := hA h0
  have hnews : ∀ j u, ((List.range n).map fun j => Value.int .i64 (f j))[j]? = some u → w.cell? ((⟨b, off, none⟩ : Addr).add j) = some u := fun j u hu => by
    have hadd : (⟨b, off, none⟩ : Addr).add j = ⟨b, off + j, none⟩ := by unfold Addr.add; split <;> simp_all
    rw [List.getElem?_map] at hu
    rcases Nat.lt_or_ge j n with hj | hj
    · rw [List.getElem?_range hj] at hu
      rw [hadd, hc j hj]
      exact hu
    · rw [List.getElem?_eq_none (by simpa using hj)] at hu
      cases hu
  have hr := run_append_grow (P := Tryz.prog) w 25 ty 3 i _ Tryz.underlying25 hi hz ⟨g, 0, none⟩ 0 0 [] (by simp) (fun j v h => by simp at h) ⟨b, off, none⟩ n ca _ (by rw [hs]; simp) hnews (by omega) (by omega) (growslice_fits (by omega) (by rw [hb]; omega))
  rw [hA1]
  refine ⟨_, _, by rw [hr, Nat.zero_add], ⟨_, heap_alloc_new w.drew _, fun j hj => ?_⟩, (Below.refl _ _).drew.alloc (Nat.le_refl _) _⟩
  rw [Array.getElem?_append_left (by simp; omega)]
  simp [hj]
theorem wpList_appI {ops : Array Oper} {rest : List Oper} {o : Oper} {a : Act} {Q : Exit → Act → World → Prop} {W W' : World} (hgd : o.guard = none) (s x : Operand) (t : TypeId)
    (ho : o.op = .call { callee := .builtin .append, args := #[s, x], argTypes := #[t, t] }) (v1 v2 r : Value) (hs : a.eval s = v1) (hx : a.eval x = v2)
    (hr : (Builtin.append_ #[t, t] o.type #[v1, v2]).run Tryz.prog W = .ok r W') (H : wpList Tryz.prog ops Q rest (a.put o.dst r) W') : wpList Tryz.prog ops Q (o :: rest) a W :=
  wpList_plain hgd fun K hK => by
    unfold Oper.wp execOp
    simp only [ho, resolve, invoke, builtin, Sem.run_bind, Sem.run_pure, Result.andThen_ok, List.map_toArray, List.map_cons, List.map_nil, hs, hx, hr]
    exact hK _ _ H
theorem one_ok {n : Nat} {st st1 : Nat → StV} {f : Nat → Int} (hl : ∀ i, i < n → StL (st1 i) (fixT st f i)) : allB (oneP st1) n = true := allB_true fun i hi => by
  have : (st1 i).n = 1 := (hl i hi).2.2.1
  unfold oneP
  rw [this]
  decide
theorem prod_one {h : Nat → Nat} : ∀ {n : Nat}, (∀ i, i < n → h i = 1) → prodN h n = 1
  | 0, _ => rfl
  | n + 1, hh => by
    show prodN h n * h n = 1
    rw [prod_one (fun i hi => hh i (by omega)), hh n (by omega)]
theorem cnt_one {n : Nat} {st st1 : Nat → StV} {f : Nat → Int} (hl : ∀ i, i < n → StL (st1 i) (fixT st f i)) : cntT n st1 = (1, 0) := by
  unfold cntT
  rw [prod_one (h := chN st1) (fun i hi => (hl i hi).2.2.1)]
  rfl
theorem stB_fx {ns k : Nat} {s : StV} (h : stB ns s = true) (hk : k < s.n) : stB ns (fxS s k) = true := by
  obtain ⟨-, -, h3, h4, h5, h6⟩ := stB_n h
  have hc := stB_ch h hk
  unfold stB
  rw [decide_eq_false (show ¬ (fxS s k).ow < 0 from by show ¬ s.ow < 0; omega), decide_eq_false (show ¬ 1 < (fxS s k).ow from by show ¬ 1 < s.ow; omega), decide_eq_false (show ¬ (fxS s k).mrk < 0 from by show ¬ s.mrk < 0; omega), decide_eq_false (show ¬ 63 < (fxS s k).mrk from by show ¬ 63 < s.mrk; omega), allB_true (n := (fxS s k).n) (p := fun j => chB ns ((fxS s k).ch j)) (fun _ _ => hc)]
  rfl
theorem moB_of {n : Nat} {st st1 : Nat → StV} (h : moB n st = true) (h1 : ∀ i, i < n → stB n (st1 i) = true) : moB n st1 = true := by
  obtain ⟨a, b⟩ := moB_n h
  unfold moB
  rw [decide_eq_false (by omega : ¬ (n : Int) < 1), decide_eq_false (by omega : ¬ (40 : Int) < (n : Int)), allB_true h1]
  rfl
theorem moB_fix {n : Nat} {st : Nat → StV} {f : Nat → Int} (h : moB n st = true) (hf : ∀ i, i < n → 0 ≤ f i ∧ (f i).toNat < (st i).n) : moB n (fixT st f) = true := moB_of h fun i hi => stB_fx (moB_st h hi) (hf i hi).2
theorem moB_for {n : Nat} {st : Nat → StV} {f : Nat → Int} (pl : Int) (h : moB n st = true) (hf : ∀ i, i < n → 0 ≤ f i ∧ (f i).toNat < (st i).n) : moB n (forT st f pl) = true := moB_of h fun i hi => by
  unfold forT
  split
  · exact stB_fx (moB_st h hi) (hf i hi).2
  · exact moB_st h hi
def tF (st : Nat → StV) (f : Nat → Int) (pl : Int) (i : Nat) : Int := if (st i).ow = pl then 0 else f i
theorem tF_ok {n : Nat} {st st2 : Nat → StV} {f : Nat → Int} {pl : Int} (hl : ∀ i, i < n → StL (st2 i) (forT st f pl i)) (hf : ∀ i, i < n → 0 ≤ f i ∧ (f i).toNat < (st i).n) : ∀ i, i < n → 0 ≤ tF st f pl i ∧ (tF st f pl i).toNat < (st2 i).n := fun i hi => by
  have h1 := (hl i hi).2.2.1
  have h2 := hf i hi
  unfold tF forT at *
  by_cases e : (st i).ow = pl
  · rw [if_pos e] at h1 ⊢
    have h3 : (st2 i).n = 1 := h1
    rw [h3]
    decide
  · rw [if_neg e] at h1 ⊢
    rw [h1]
    exact h2
theorem strB_of {n : Nat} {st : Nat → StV} {f : Nat → Int} (hf : ∀ i, i < n → 0 ≤ f i ∧ (f i).toNat < (st i).n) : strB n n st f = true := by
  unfold strB
  rw [allB_true (p := strP st f) (fun i hi => by
    have h := hf i hi
    unfold strP
    rw [decide_eq_false (by omega : ¬ f i < 0), decide_eq_false (by omega : ¬ ((st i).n : Int) ≤ f i)]
    rfl)]
  simp
theorem both_fixed {n : Nat} {st st2 : Nat → StV} {f : Nat → Int} {pl : Int} (hp : pl = 0 ∨ pl = 1) (hM : moB n st = true) (hf : ∀ i, i < n → 0 ≤ f i ∧ (f i).toNat < (st i).n) (hl : ∀ i, i < n → StL (st2 i) (forT st f pl i)) : ∀ i, i < n → StL (forT st2 (tF st f pl) (1 - pl) i) (fixT st f i) := fun i hi => by
  obtain ⟨-, -, h3, h4, -, -⟩ := stB_n (moB_st hM hi)
  have h := hl i hi
  unfold forT at h ⊢
  by_cases e : (st i).ow = pl
  · rw [if_pos e] at h
    have ho : (st2 i).ow = (st i).ow := h.1
    rw [if_neg (by omega)]
    exact h
  · rw [if_neg e] at h
    have ho : (st2 i).ow = (st i).ow := h.1
    rw [if_pos (by omega)]
    have ht : tF st f pl i = f i := if_neg e
    unfold fixT
    rw [ht]
    exact ⟨h.1, h.2.1, rfl, fun _ _ => h.2.2.2 _ (hf i hi).2⟩
theorem dgN_lt {n : Nat} {st : Nat → StV} (h : moB n st = true) (K : Nat) : ∀ i, i < n → 0 ≤ ((dgN (chN st) n K i : Nat) : Int) ∧ (((dgN (chN st) n K i : Nat) : Int)).toNat < (st i).n := fun i hi => by
  have h1 := chN_pos h i hi
  have h2 : dgN (chN st) n K i < chN st i := Nat.mod_lt _ (by omega)
  exact ⟨by omega, by rw [Int.toNat_natCast]; exact h2⟩
theorem dgN_inj {f : Nat → Nat} {n K L : Nat} (hf : ∀ i, i < n → 1 ≤ f i) (hK : K < prodN f n) (hL : L < prodN f n) (h : ∀ i, i < n → dgN f n K i = dgN f n L i) : K = L := by
  have z : ∀ M, M < prodN f n → lef f n M 0 = 0 := fun M hM => by
    have := lef_zero f (K := M) hf
    omega
  have key : ∀ q, q ≤ n → lef f n K q = lef f n L q := by
    intro q
    induction q with
    | zero => intro _; rw [z K hK, z L hL]
    | succ q ih =>
      intro hq
      have h1 := ih (by omega)
      rw [lef_step f (by omega : q < n), lef_step f (by omega : q < n)] at h1
      have h2 := h q (by omega)
      unfold dgN at h2
      rw [← Nat.div_add_mod (lef f n K (q + 1)) (f q), ← Nat.div_add_mod (lef f n L (q + 1)) (f q), h1, h2]
  have := key n (Nat.le_refl _)
  rw [lef_n, lef_n] at this
  exact this
theorem below_eqm {X Y : World} {o : Obj} (h : X.alloc o = Y) : Below X.heap.size X Y := by
  rw [← h]
  exact below_alloc _ _
theorem list1m {X Y : World} {v1 : Value} {T : Nat} (h : X.alloc (.cells #[v1] T) = Y) : Y.cell? ⟨X.heap.size, 0, none⟩ = some v1 ∧ X.heap.size < Y.heap.size := by
  subst h
  simp [go_sem]
theorem all1m (b1 : Bool) : allB (fun _ => b1) 1 = b1 := by
  cases b1 <;> rfl
theorem rident_likem {w : World} {A B : Option Addr} {n c d : Nat} {st st' tg : Nat → StV} (hA : Lst w A n st) (hB : Lst w B n st') (h : ∀ i, i < n → StL (st i) (tg i)) (h' : ∀ i, i < n → StL (st' i) (tg i)) (hs : Szs n tg) :
    Calls Tryz.prog 23 #[.agg #[.slice A n c], .agg #[.slice B n d]] w fun e w' => e = .returned (.bool true) ∧ Below w.heap.size w w' := by
  have := rident_any A B n c n d st st' w hA hB (szs_like h hs) (szs_like h' hs)
  rw [moE_like (fun i hi => (h i hi).trans (h' i hi).symm)] at this
  exact this
theorem forT_ow (st : Nat → StV) (f : Nat → Int) (pl : Int) (i : Nat) : (forT st f pl i).ow = (st i).ow := by
  unfold forT
  split <;> rfl
def RetNm (m : Nat) (f : Nat → Int) (y : Int) (w : World) (e : Ending) (w' : World) : Prop := ∃ A, e = .returned (.tuple #[.slice A m m, .int .i64 y]) ∧ Lin w' A m f ∧ Below w.heap.size w w'
theorem means_m (A B : Option Addr) (n c m d : Nat) (pl jj kk : Int) (b1 : Bool) (hb : b1 = true) (w : World)
    (HFa : Hid (CV 43 #[.int .i64 40, .agg #[.slice A n c]] (.bool b1) w))
    (HAw : Hid (CV 11 #[] (.bool true) w)) (hl : decide ((60 : Int) < (m : Int)) = true) : 
    Calls Tryz.prog 8 #[.agg #[.slice A n c], .slice B m d, .int .i64 pl, .int .i64 jj, .int .i64 kk] w fun e w' => e = .returned (.bool true) ∧ Below w.heap.size w w' := by
  go_enter Tryz.func8, Tryz.ntmps8
  go_upto_region 1 with fail
  generalize hX : w.alloc _ = X
  have HX : Hid (Below w.heap.size w X) := by rw [← hX]; exact below_alloc _ _
  have KX : Hid (MBx X w.heap.size A n c) := by rw [← hX]; exact MBx.new _ _ _ _ _
  clear hX
  obtain ⟨k0, -⟩ := KX.out
  go_wp2_with fail
  clear k0
  generalize hY : X.alloc _ = Y
  have HY : Hid (Below w.heap.size w Y) := by rw [← hY]; exact Lib.hid (HX.out.trans ((below_alloc X _).mono HX.out.size))
  have KY : Hid (MBx Y w.heap.size A n c) := by rw [← hY]; exact Lib.hid (KX.out.keep (below_alloc _ _))
  obtain ⟨y0, y2⟩ := list1m hY
  clear hY HX KX
  have HLs : Hid (∀ i, i < 1 → Y.cell? ⟨X.heap.size, i, none⟩ = some (.slice ((fun _ => A) i) ((fun _ => n) i) ((fun _ => c) i))) := fun i hi => by
    obtain rfl : i = 0 := by omega
    exact y0
  have HFs : Hid (∀ i, i < 1 → CV 43 #[.int .i64 40, .agg #[.slice ((fun _ => A) i) ((fun _ => n) i) ((fun _ => c) i)]] (.bool ((fun _ => b1) i)) Y) := fun i hi => HFa.out.keep HY.out
  (with_reducible refine (lfew_any X.heap.size 1 (fun _ => A) (fun _ => n) (fun _ => c) (fun _ => b1) Y (by omega) y2 HLs HFs).mono ?_)
  rintro e w0 ⟨rfl, hB⟩
  rw [all1m]
  have HH := Lib.hid (HY.out.trans (hB.mono HY.out.size))
  have K := Lib.hid (KY.out.keep hB)
  clear hB HY KY y0 y2 HFa HLs HFs
  rw [hb]
  go_wp2_with fail
  (with_reducible refine (HAw.out.run HH.out).mono ?_)
  rintro e wz ⟨rfl, hBz⟩
  have CZ := Lib.hid (HH.out.trans (hBz.mono HH.out.size))
  clear hBz
  go_wp2_with fail
  go_ret
  exact ⟨rfl, CZ.out⟩
theorem means_dark (A B : Option Addr) (n c m d : Nat) (pl jj kk : Int) (b1 : Bool) (hb : b1 = false) (w : World)
    (HFa : Hid (CV 43 #[.int .i64 40, .agg #[.slice A n c]] (.bool b1) w))
    (HAw : Hid (CV 11 #[] (.bool true) w)) : 
    Calls Tryz.prog 8 #[.agg #[.slice A n c], .slice B m d, .int .i64 pl, .int .i64 jj, .int .i64 kk] w fun e w' => e = .returned (.bool true) ∧ Below w.heap.size w w' := by
  go_enter Tryz.func8, Tryz.ntmps8
  go_upto_region 1 with fail
  generalize hX : w.alloc _ = X
  have HX : Hid (Below w.heap.size w X) := by rw [← hX]; exact below_alloc _ _
  have KX : Hid (MBx X w.heap.size A n c) := by rw [← hX]; exact MBx.new _ _ _ _ _
  clear hX
  obtain ⟨k0, -⟩ := KX.out
  go_wp2_with fail
  clear k0
  generalize hY : X.alloc _ = Y
  have HY : Hid (Below w.heap.size w Y) := by rw [← hY]; exact Lib.hid (HX.out.trans ((below_alloc X _).mono HX.out.size))
  have KY : Hid (MBx Y w.heap.size A n c) := by rw [← hY]; exact Lib.hid (KX.out.keep (below_alloc _ _))
  obtain ⟨y0, y2⟩ := list1m hY
  clear hY HX KX
  have HLs : Hid (∀ i, i < 1 → Y.cell? ⟨X.heap.size, i, none⟩ = some (.slice ((fun _ => A) i) ((fun _ => n) i) ((fun _ => c) i))) := fun i hi => by
    obtain rfl : i = 0 := by omega
    exact y0
  have HFs : Hid (∀ i, i < 1 → CV 43 #[.int .i64 40, .agg #[.slice ((fun _ => A) i) ((fun _ => n) i) ((fun _ => c) i)]] (.bool ((fun _ => b1) i)) Y) := fun i hi => HFa.out.keep HY.out
  (with_reducible refine (lfew_any X.heap.size 1 (fun _ => A) (fun _ => n) (fun _ => c) (fun _ => b1) Y (by omega) y2 HLs HFs).mono ?_)
  rintro e w0 ⟨rfl, hB⟩
  rw [all1m]
  have HH := Lib.hid (HY.out.trans (hB.mono HY.out.size))
  have K := Lib.hid (KY.out.keep hB)
  clear hB HY KY y0 y2 HFa HLs HFs
  rw [hb]
  go_wp2_with fail
  (with_reducible refine (HAw.out.run HH.out).mono ?_)
  rintro e wz ⟨rfl, hBz⟩
  have CZ := Lib.hid (HH.out.trans (hBz.mono HH.out.size))
  clear hBz
  go_wp2_with fail
  go_ret
  exact ⟨rfl, CZ.out⟩
theorem means_all (A B : Option Addr) (n c m d : Nat) (pl jj kk : Int) (b1 : Bool) (hb : b1 = true) (w : World)
    (HFa : Hid (CV 43 #[.int .i64 40, .agg #[.slice A n c]] (.bool b1) w))
    (HAw : Hid (CV 11 #[] (.bool true) w))
    (hl : decide ((60 : Int) < (m : Int)) = false)
    (st : Nat → StV) (f : Nat → Int) (n1 : Nat) (tg1 : Nat → StV) (y1 : Int)
    (P1 : Hid (∀ wx, Below w.heap.size w wx → Calls Tryz.prog 28 #[.agg #[.slice A n c], .slice B m d] wx (RetMd n1 tg1 y1 wx)))
    (HB0 : Hid (Lin w B m f))
    (HC : Hid (y1 = 1 ∨ (y1 = 0 ∧ n1 = n ∧ m = n ∧ 0 < n ∧ n ≤ 60 ∧ tg1 = fixT st f ∧ Szs n (fixT st f) ∧
      (∀ wx A1 c1 st1, Lst wx A1 n st1 → (∀ i, i < n → StL (st1 i) (fixT st f i)) → Calls Tryz.prog 16 #[.agg #[.slice A1 n c1]] wx fun e w' => e = .returned (.tuple #[.bool true, .int .i64 0]) ∧ Below wx.heap.size wx w') ∧
      (∀ wx A1 c1 st1, Lst wx A1 n st1 → (∀ i, i < n → StL (st1 i) (fixT st f i)) → Calls Tryz.prog 33 #[.agg #[.slice A1 n c1]] wx fun e w' => e = .returned (.tuple #[.int .i64 1, .int .i64 0]) ∧ Below wx.heap.size wx w') ∧
      ((¬ (pl = 0 ∨ pl = 1) ∧ ∀ wx, Below w.heap.size w wx → Calls Tryz.prog 29 #[.agg #[.slice A n c], .slice B n d, .int .i64 pl] wx (RetMd 0 (fun _ => st0) 6 wx)) ∨
       ((pl = 0 ∨ pl = 1) ∧ (∀ wx, Below w.heap.size w wx → Calls Tryz.prog 29 #[.agg #[.slice A n c], .slice B n d, .int .i64 pl] wx (RetMd n (forT st f pl) 0 wx)) ∧
        ∀ wx A2 c2 st2 B2 d2, Lst wx A2 n st2 → (∀ i, i < n → StL (st2 i) (forT st f pl i)) → Lin wx B2 n (tF st f pl) → Calls Tryz.prog 29 #[.agg #[.slice A2 n c2], .slice B2 n d2, .int .i64 (1 - pl)] wx (RetMd n (fixT st f) 0 wx))))))
    (m1 m2 : Nat) (f1 f2 : Nat → Int) (e1 e2 : Int)
    (N1 : Hid (∀ wx, Below w.heap.size w wx → Calls Tryz.prog 34 #[.agg #[.slice A n c], .int .i64 jj] wx (RetNm m1 f1 e1 wx)))
    (N2 : Hid (∀ wx, Below w.heap.size w wx → Calls Tryz.prog 34 #[.agg #[.slice A n c], .int .i64 kk] wx (RetNm m2 f2 e2 wx)))
    (HE : Hid (e1 ≠ 0 ∨ (e1 = 0 ∧ e2 ≠ 0) ∨ (e1 = 0 ∧ e2 = 0 ∧ m1 = n ∧ m2 = n ∧ n ≤ 60 ∧ (∀ wx A1, Below w.heap.size w wx → Lin wx A1 n f1 → Calls Tryz.prog 19 #[.agg #[.slice A n c], .slice A1 n n] wx fun e w' => e = .returned (.tuple #[.bool true, .int .i64 0]) ∧ Below wx.heap.size wx w') ∧
      (jj == kk) = allB (fun i => decide (f1 i = f2 i)) n))) : 
    Calls Tryz.prog 8 #[.agg #[.slice A n c], .slice B m d, .int .i64 pl, .int .i64 jj, .int .i64 kk] w fun e w' => e = .returned (.bool true) ∧ Below w.heap.size w w' := by
  go_enter Tryz.func8, Tryz.ntmps8
  go_upto_region 1 with fail
  generalize hX : w.alloc _ = X
  have HX : Hid (Below w.heap.size w X) := by rw [← hX]; exact below_alloc _ _
  have KX : Hid (MBx X w.heap.size A n c) := by rw [← hX]; exact MBx.new _ _ _ _ _
  clear hX
  obtain ⟨k0, -⟩ := KX.out
  go_wp2_with fail
  clear k0
  generalize hY : X.alloc _ = Y
  have HY : Hid (Below w.heap.size w Y) := by rw [← hY]; exact Lib.hid (HX.out.trans ((below_alloc X _).mono HX.out.size))
  have KY : Hid (MBx Y w.heap.size A n c) := by rw [← hY]; exact Lib.hid (KX.out.keep (below_alloc _ _))
  obtain ⟨y0, y2⟩ := list1m hY
  clear hY HX KX
  have HLs : Hid (∀ i, i < 1 → Y.cell? ⟨X.heap.size, i, none⟩ = some (.slice ((fun _ => A) i) ((fun _ => n) i) ((fun _ => c) i))) := fun i hi => by
    obtain rfl : i = 0 := by omega
    exact y0
  have HFs : Hid (∀ i, i < 1 → CV 43 #[.int .i64 40, .agg #[.slice ((fun _ => A) i) ((fun _ => n) i) ((fun _ => c) i)]] (.bool ((fun _ => b1) i)) Y) := fun i hi => HFa.out.keep HY.out
  (with_reducible refine (lfew_any X.heap.size 1 (fun _ => A) (fun _ => n) (fun _ => c) (fun _ => b1) Y (by omega) y2 HLs HFs).mono ?_)
  rintro e w0 ⟨rfl, hB⟩
  rw [all1m]
  have HH := Lib.hid (HY.out.trans (hB.mono HY.out.size))
  have K := Lib.hid (KY.out.keep hB)
  clear hB HY KY y0 y2 HFa HLs HFs
  rw [hb]
  obtain ⟨k0, -⟩ := K.out
  go_wp2_with fail
  clear k0
  (with_reducible refine (P1.out _ HH.out).mono ?_)
  rintro e w1 ⟨A1, c1, s1, rfl, hL, hS, hB⟩
  replace K := Lib.hid (K.out.keep hB)
  replace HH := Lib.hid (HH.out.trans (hB.mono HH.out.size))
  have L1 := Lib.hid hL
  have E1 := Lib.hid hS
  clear hL hS hB P1
  go_upto_region 4 with fail
  generalize hZ : World.alloc _ _ = Z
  have hbz := below_eqm hZ
  have B1 := Lib.hid (show MBx Z _ A1 n1 c1 by rw [← hZ]; exact MBx.new _ _ _ _ _)
  replace K := Lib.hid (K.out.keep hbz)
  replace L1 := Lib.hid (L1.out.keep hbz)
  replace HH := Lib.hid (HH.out.trans (hbz.mono HH.out.size))
  clear hZ hbz
  generalize w1.heap.size = g1 at *
  obtain ⟨gm, hgm⟩ : ∃ gm, w.heap.size = gm := ⟨_, rfl⟩
  have HGM := Lib.hid hgm
  rw [hgm] at K ⊢
  clear hgm
  go_upto_if 46 with fail
  go_cut [] (fun wx => Hid (MBx wx gm A n c) ∧ Hid (Below w.heap.size w wx))
  case first =>
    rcases HC.out with hy | ⟨hy, hn1, hmn, hn0, hn60, htg, hsz, hch, hco, hff⟩
    · subst hy
      go_wp2_with fail
      go_meet
      exact ⟨K, HH⟩
    · subst hy
      subst hn1
      subst htg
      subst hmn
      have HSZ := Lib.hid hsz
      have HCH := Lib.hid hch
      have HCO := Lib.hid hco
      have HFF := Lib.hid hff
      have HN0 := Lib.hid hn0
      have HN60 := Lib.hid hn60
      clear hsz hch hco hff hn0 hn60 HC
      obtain ⟨k0, -⟩ := B1.out
      go_wp2_with fail
      clear k0
      (with_reducible refine (HCH.out _ _ _ _ L1.out E1.out).mono ?_)
      rintro e w2 ⟨rfl, hB⟩
      replace K := Lib.hid (K.out.keep hB)
      replace B1 := Lib.hid (B1.out.keep hB)
      replace L1 := Lib.hid (L1.out.keep hB)
      replace HH := Lib.hid (HH.out.trans (hB.mono HH.out.size))
      clear hB HCH
      obtain ⟨k0, -⟩ := B1.out
      go_wp2_with fail
      clear k0
      (with_reducible refine (HCO.out _ _ _ _ L1.out E1.out).mono ?_)
      rintro e w3 ⟨rfl, hB⟩
      replace K := Lib.hid (K.out.keep hB)
      replace B1 := Lib.hid (B1.out.keep hB)
      replace L1 := Lib.hid (L1.out.keep hB)
      replace HH := Lib.hid (HH.out.trans (hB.mono HH.out.size))
      clear hB HCO
      obtain ⟨k0, -⟩ := B1.out
      obtain ⟨k1, -⟩ := K.out
      go_wp2_with fail
      clear k0 k1
      rcases HFF.out with ⟨hp, hbad⟩ | ⟨hp, hgood, hnext⟩
      · (with_reducible refine (hbad _ HH.out).mono ?_)
        rintro e w4 ⟨A2, c2, s2, rfl, hL, hS, hB⟩
        replace K := Lib.hid (K.out.keep hB)
        replace HH := Lib.hid (HH.out.trans (hB.mono HH.out.size))
        clear hL hS hB
        go_upto_region 10 with fail
        generalize hZ : World.alloc _ _ = Z2
        have hbz := below_eqm hZ
        replace K := Lib.hid (K.out.keep hbz)
        replace HH := Lib.hid (HH.out.trans (hbz.mono HH.out.size))
        clear hZ hbz
        go_wp2_with fail
        go_meet
        exact ⟨K, HH⟩
      · have HP := Lib.hid hp
        have HNX := Lib.hid hnext
        (with_reducible refine (hgood _ HH.out).mono ?_)
        rintro e w4 ⟨A2, c2, s2, rfl, hL, hS, hB⟩
        replace K := Lib.hid (K.out.keep hB)
        replace B1 := Lib.hid (B1.out.keep hB)
        replace L1 := Lib.hid (L1.out.keep hB)
        replace HH := Lib.hid (HH.out.trans (hB.mono HH.out.size))
        have L2 := Lib.hid hL
        have E2 := Lib.hid hS
        clear hL hS hB hp hgood hnext
        go_upto_region 10 with fail
        generalize hZ : World.alloc _ _ = Z2
        have hbz := below_eqm hZ
        have B2 := Lib.hid (show MBx Z2 _ A2 m c2 by rw [← hZ]; exact MBx.new _ _ _ _ _)
        replace K := Lib.hid (K.out.keep hbz)
        replace B1 := Lib.hid (B1.out.keep hbz)
        replace L1 := Lib.hid (L1.out.keep hbz)
        replace L2 := Lib.hid (L2.out.keep hbz)
        replace HH := Lib.hid (HH.out.trans (hbz.mono HH.out.size))
        clear hZ hbz
        generalize w4.heap.size = g2 at *
        have HBV : Hid (Below Z2.heap.size Z2 (Z2.alloc (.cells #[] 3))) := Lib.hid (below_alloc _ _)
        have HSV : Hid ((Z2.alloc (.cells #[] 3)).heap.size = Z2.heap.size + 1) := Lib.hid (by simp)
        obtain ⟨c5, W0, hr, ho, hb5⟩ := run_copyI (Z2.alloc (.cells #[] 3)) 25 Z2.heap.size B m d f (HB0.out.keep (HH.out.trans (HBV.out.mono HH.out.size))) HN0.out (Nat.le_trans HN60.out (by omega))
        rw [HSV.out] at hr ho
        have HB5 : Hid (Below Z2.heap.size Z2 W0) := Lib.hid (HBV.out.trans (hb5.mono HBV.out.size))
        have HO := Lib.hid ho
        have HGZ : Hid (Z2.heap.size ≤ Z2.heap.size + 1) := Lib.hid (by omega)
        clear ho hb5 HBV HSV
        generalize Z2.heap.size + 1 = g at *
        go_wp2_with (at_builtin; refine wpList_appI rfl _ _ 25 rfl _ _ _ rfl rfl hr ?_)
        clear hr
        go_loopw [94] (fun i wr => ∃ k : Nat, Hid (k ≤ m) ∧ i = .int .i64 (k : Int) ∧ Hid (Own1 wr g m (fun j => if j < k then tF st f pl j else f j)) ∧ Hid (Below Z2.heap.size Z2 wr)) (fun i _ => m - (intOf i).toNat)
        case atStart => exact ⟨0, Nat.zero_le _, rfl, Lib.hid (HO.out.congr fun i _ => (if_neg (by omega)).symm), HB5⟩
        case round =>
          clear HO HB5
          obtain ⟨k, hk, rfl, hO, hB⟩ := hrel
          obtain ⟨k0, -⟩ := K.out.keep hB.out
          obtain ⟨k2, -⟩ := B2.out.keep hB.out
          have hm1 : m ≤ 60 := HN60.out
          by_cases hlt : k < m
          · have hlt' : (k : Int) < (m : Int) := by omega
            obtain ⟨b, off, hAe, hS3, -⟩ := (L2.out.keep hB.out).at hlt
            obtain ⟨-, s0, -, -⟩ := hS3
            have HOW : Hid ((s2 k).ow = (st k).ow) := Lib.hid ((E2.out k hlt).1.trans (forT_ow st f pl k))
            generalize (s2 k).ow = ow at s0 HOW
            subst hAe
            have a0 := hO.out.cell hlt
            have f0 := hO.out.frz k
            have hgl := hO.out.lt
            by_cases e : ow = pl
            · have HS1 : Hid (Own1 (wr.setCell ⟨g, k, none⟩ (.int .i64 0)) g m (fun j => if j < k + 1 then tF st f pl j else f j)) := Lib.hid ((hO.out.set k 0).congr fun j _ => by
                show (if j = k then 0 else if j < k then tF st f pl j else f j) = (if j < k + 1 then tF st f pl j else f j)
                by_cases e1 : j = k
                · rw [if_pos e1, if_pos (by omega), e1]; exact (if_pos (by rw [← HOW.out]; exact e)).symm
                · rw [if_neg e1]
                  by_cases e2 : j < k
                  · rw [if_pos e2, if_pos (by omega)]
                  · rw [if_neg e2, if_neg (by omega)])
              have HB6 := Lib.hid (hB.out.setCell (p := ⟨g, k, none⟩) HGZ.out (.int .i64 0))
              generalize (if k < k then tF st f pl k else f k) = fk at a0
              subst e
              clear hO
              go_wp2_with fail
              exact ⟨⟨k + 1, Lib.hid (by omega), by rw [show ((k + 1 : Nat) : Int) = (k : Int) + 1 from by omega], HS1, HB6⟩, by simp [intOf]; omega⟩
            · have HS1 : Hid (Own1 wr g m (fun j => if j < k + 1 then tF st f pl j else f j)) := Lib.hid (hO.out.congr fun j _ => by
                show (if j < k then tF st f pl j else f j) = (if j < k + 1 then tF st f pl j else f j)
                by_cases e1 : j = k
                · rw [if_neg (by omega), if_pos (by omega), e1]; exact (if_neg (by rw [← HOW.out]; exact e)).symm
                · by_cases e2 : j < k
                  · rw [if_pos e2, if_pos (by omega)]
                  · rw [if_neg e2, if_neg (by omega)])
              clear hO a0 f0
              go_wp2_with fail
              exact ⟨⟨k + 1, Lib.hid (by omega), by rw [show ((k + 1 : Nat) : Int) = (k : Int) + 1 from by omega], HS1, hB⟩, by simp [intOf]; omega⟩
          · have hke : k = m := by have := hk.out; omega
            have hlt' : ¬ (k : Int) < (m : Int) := by omega
            have HLT : Hid (Lin wr (some ⟨g, 0, none⟩) m (tF st f pl)) := Lib.hid ((hO.out.congr fun j hj => if_pos (by omega)).lin)
            have hq0 : 0 ≤ pl := by have := HP.out; omega
            have hq1 : pl ≤ 1 := by have := HP.out; omega
            replace K := Lib.hid (K.out.keep hB.out)
            replace B1 := Lib.hid (B1.out.keep hB.out)
            replace L1 := Lib.hid (L1.out.keep hB.out)
            replace L2 := Lib.hid (L2.out.keep hB.out)
            replace HH := Lib.hid (HH.out.trans (hB.out.mono HH.out.size))
            subst hke
            clear hO hB
            go_wp2_with fail
            clear k0 k2 hq0 hq1
            (with_reducible refine (HNX.out _ _ _ _ _ _ L2.out E2.out HLT.out).mono ?_)
            rintro e w5 ⟨A3, c3, s3, rfl, hL, hS, hB⟩
            replace K := Lib.hid (K.out.keep hB)
            replace B1 := Lib.hid (B1.out.keep hB)
            replace L1 := Lib.hid (L1.out.keep hB)
            replace HH := Lib.hid (HH.out.trans (hB.mono HH.out.size))
            have L3 := Lib.hid hL
            have E3 := Lib.hid hS
            clear hL hS hB
            go_upto_region 21 with fail
            generalize hZ : World.alloc _ _ = Z3
            have hbz := below_eqm hZ
            have B3 := Lib.hid (show MBx Z3 _ A3 k c3 by rw [← hZ]; exact MBx.new _ _ _ _ _)
            replace K := Lib.hid (K.out.keep hbz)
            replace B1 := Lib.hid (B1.out.keep hbz)
            replace L1 := Lib.hid (L1.out.keep hbz)
            replace L3 := Lib.hid (L3.out.keep hbz)
            replace HH := Lib.hid (HH.out.trans (hbz.mono HH.out.size))
            clear hZ hbz
            obtain ⟨k0, -⟩ := B1.out
            obtain ⟨k3, -⟩ := B3.out
            go_wp2_with fail
            clear k0 k3
            (with_reducible refine (rident_likem L3.out L1.out E3.out E1.out HSZ.out).mono ?_)
            rintro e w6 ⟨rfl, hB⟩
            replace K := Lib.hid (K.out.keep hB)
            replace HH := Lib.hid (HH.out.trans (hB.mono HH.out.size))
            clear hB
            go_wp2_with fail
            go_meet
            exact ⟨K, HH⟩
  case rest =>
    obtain ⟨K, HH⟩ := hcut
    clear HC HB0
    obtain ⟨k0, -⟩ := K.out
    go_wp2_with fail
    clear k0
    (with_reducible refine (N1.out _ HH.out).mono ?_)
    rintro e w2 ⟨Aa, rfl, hL, hB⟩
    have La := Lib.hid hL
    replace K := Lib.hid (K.out.keep hB)
    replace HH := Lib.hid (HH.out.trans (hB.mono HH.out.size))
    clear hL hB N1
    obtain ⟨k0, -⟩ := K.out
    go_wp2_with fail
    clear k0
    (with_reducible refine (N2.out _ HH.out).mono ?_)
    rintro e w3 ⟨Ab, rfl, hL, hB⟩
    have Lb := Lib.hid hL
    replace La := Lib.hid (La.out.keep hB)
    replace K := Lib.hid (K.out.keep hB)
    replace HH := Lib.hid (HH.out.trans (hB.mono HH.out.size))
    clear hL hB N2
    rcases HE.out with h1 | ⟨h1, h2⟩ | ⟨h1, h2, hm1, hm2, hn60, hvs, hjk⟩
    · have hb1 : (e1 != 0) = true := bne_iff_ne.2 h1
      clear HE La Lb
      go_wp2_with fail
      (with_reducible refine (HAw.out.run HH.out).mono ?_)
      rintro e wz ⟨rfl, hBz⟩
      have CZ := Lib.hid (HH.out.trans (hBz.mono HH.out.size))
      clear hBz
      go_wp2_with fail
      go_ret
      exact ⟨rfl, CZ.out⟩
    · subst h1
      have hb1 : (e2 != 0) = true := bne_iff_ne.2 h2
      clear HE La Lb
      go_wp2_with fail
      (with_reducible refine (HAw.out.run HH.out).mono ?_)
      rintro e wz ⟨rfl, hBz⟩
      have CZ := Lib.hid (HH.out.trans (hBz.mono HH.out.size))
      clear hBz
      go_wp2_with fail
      go_ret
      exact ⟨rfl, CZ.out⟩
    · subst h1 h2 hm1
      subst hm2
      have HVS := Lib.hid hvs
      have HN60 := Lib.hid hn60
      have HJK := Lib.hid hjk
      clear HE hvs hn60 hjk
      obtain ⟨k0, -⟩ := K.out
      go_wp2_with fail
      clear k0
      (with_reducible refine (HVS.out _ _ HH.out La.out).mono ?_)
      rintro e w4 ⟨rfl, hB⟩
      replace La := Lib.hid (La.out.keep hB)
      replace Lb := Lib.hid (Lb.out.keep hB)
      replace K := Lib.hid (K.out.keep hB)
      replace HH := Lib.hid (HH.out.trans (hB.mono HH.out.size))
      clear hB HVS
      go_wp2_with fail
      (with_reducible refine (rlist_two Aa Ab _ _ _ f1 f2 w4 (Nat.le_trans HN60.out (by omega)) La.out Lb.out).mono ?_)
      rintro e w5 ⟨rfl, hB⟩
      replace HH := Lib.hid (HH.out.trans (hB.mono HH.out.size))
      rw [← HJK.out]
      clear hB La Lb HJK
      cases hjk : (jj == kk) with
      | true =>
        go_wp2_with fail
        (with_reducible refine (HAw.out.run HH.out).mono ?_)
        rintro e wz ⟨rfl, hBz⟩
        have CZ := Lib.hid (HH.out.trans (hBz.mono HH.out.size))
        clear hBz
        go_wp2_with fail
        go_ret
        exact ⟨rfl, CZ.out⟩
      | false =>
        go_wp2_with fail
        (with_reducible refine (HAw.out.run HH.out).mono ?_)
        rintro e wz ⟨rfl, hBz⟩
        have CZ := Lib.hid (HH.out.trans (hBz.mono HH.out.size))
        clear hBz
        go_wp2_with fail
        go_ret
        exact ⟨rfl, CZ.out⟩
theorem nm_err {y : Int} {w : World} {e : Ending} {w' : World} (h : e = .returned (.tuple #[.slice none 0 0, .int .i64 y]) ∧ Below w.heap.size w w') : RetNm 0 (fun _ => 0) y w e w' :=
  ⟨none, h.1, fun h => absurd h (by omega), h.2⟩
theorem nth_all {A : Option Addr} {n c : Nat} {st : Nat → StV} {w : World} (kk : Int) (hk1 : -9223372036854775808 ≤ kk) (hk2 : kk ≤ 9223372036854775807) (hA : Lst w A n st) (V1 : CV 20 #[.agg #[.slice A n c]] (.bool (moB n st)) w) :
    ∃ m f y, (∀ wx, Below w.heap.size w wx → Calls Tryz.prog 34 #[.agg #[.slice A n c], .int .i64 kk] wx (RetNm m f y wx)) ∧
      (y ≠ 0 ∨ (y = 0 ∧ moB n st = true ∧ ∃ K : Nat, kk = (K : Int) ∧ K < prodN (chN st) n ∧ m = n ∧ f = fun i => ((dgN (chN st) n K i : Nat) : Int))) := by
  cases hM : moB n st with
  | false =>
    rw [hM] at V1
    exact ⟨0, fun _ => 0, 1, fun wx hx => (mnth_bad A n c kk wx (V1.keep hx)).mono fun _ _ => nm_err, .inl (by decide)⟩
  | true =>
    rw [hM] at V1
    by_cases hneg : kk < 0
    · exact ⟨0, fun _ => 0, 6, fun wx hx => (mnth_neg A n c kk wx hneg hk1 (V1.keep hx)).mono fun _ _ => nm_err, .inl (by decide)⟩
    · obtain ⟨KN, rfl⟩ := Int.eq_ofNat_of_zero_le (show 0 ≤ kk by omega)
      have hKN : KN ≤ 9223372036854775807 := by omega
      by_cases hlo : KN < prodN (chN st) n
      · exact ⟨n, _, 0, fun wx hx => mnth_ok A n c KN st wx hKN hM (hA.keep hx) (V1.keep hx) hlo, .inr ⟨rfl, rfl, KN, rfl, hlo, rfl, rfl⟩⟩
      · exact ⟨0, fun _ => 0, 6, fun wx hx => (mnth_far A n c KN st wx hKN hM (hA.keep hx) (V1.keep hx) (Nat.le_of_not_lt hlo)).mono fun _ _ => nm_err, .inl (by decide)⟩
theorem means_any (A B : Option Addr) (n c m d : Nat) (pl jj kk : Int) (st : Nat → StV) (f : Nat → Int) (w : World) (hj1 : -9223372036854775808 ≤ jj) (hj2 : jj ≤ 9223372036854775807) (hk1 : -9223372036854775808 ≤ kk) (hk2 : kk ≤ 9223372036854775807) (hA : Lst w A n st) (hB : Lin w B m f) (hfa : FitsM n st) (htab : Tab w) :
    Calls Tryz.prog 8 #[.agg #[.slice A n c], .slice B m d, .int .i64 pl, .int .i64 jj, .int .i64 kk] w fun e w' => e = .returned (.bool true) ∧ Below w.heap.size w w' := by
  have HAw : CV 11 #[] (.bool true) w := fun wx hb => awake_any wx (htab.keep hb)
  have HFa := few_cv (c := c) hfa hA
  cases hb : fewB n st with
  | false => exact means_dark A B n c m d pl jj kk _ hb w HFa HAw
  | true =>
  cases hl : decide ((60 : Int) < (m : Int)) with
  | true => exact means_m A B n c m d pl jj kk _ hb w HFa HAw hl
  | false =>
  have hs := few_szs hb
  have hm : m ≤ 60 := by have := of_decide_eq_false hl; omega
  have V1 := mv_cv (c := c) hs hA
  have T1 : CV 52 #[.agg #[.slice A n c], .slice B m d] (.bool (strB n m st f)) w := fun wx hx => isStr_any A B n c m d st f wx hs.1 (by omega) (hA.keep hx) hs.2.1 (hB.keep hx)
  obtain ⟨m1, f1, e1, N1, hN1⟩ := nth_all (c := c) jj hj1 hj2 hA V1
  obtain ⟨m2, f2, e2, N2, hN2⟩ := nth_all (c := c) kk hk1 hk2 hA V1
  have HE : e1 ≠ 0 ∨ (e1 = 0 ∧ e2 ≠ 0) ∨ (e1 = 0 ∧ e2 = 0 ∧ m1 = n ∧ m2 = n ∧ n ≤ 60 ∧ (∀ wx A1, Below w.heap.size w wx → Lin wx A1 n f1 → Calls Tryz.prog 19 #[.agg #[.slice A n c], .slice A1 n n] wx fun e w' => e = .returned (.tuple #[.bool true, .int .i64 0]) ∧ Below wx.heap.size wx w') ∧
      (jj == kk) = allB (fun i => decide (f1 i = f2 i)) n) := by
    rcases hN1 with h1 | ⟨h1, hM, K, hK, hKl, hm1, hf1⟩
    · exact .inl h1
    · rcases hN2 with h2 | ⟨h2, -, L, hL, hLl, hm2, hf2⟩
      · exact .inr (.inl ⟨h1, h2⟩)
      · refine .inr (.inr ⟨h1, h2, hm1, hm2, by have := (moB_n hM).2; omega, fun wx A1 hx hL1 => ?_, ?_⟩)
        · subst hf1
          have V2 := V1.keep hx
          rw [hM] at V2
          refine vstr_ok A n c A1 n n true wx V2 (fun wy hy => ?_)
          have := isStr_any A A1 n c n n st (fun i => ((dgN (chN st) n K i : Nat) : Int)) wy hs.1 hs.1 ((hA.keep hx).keep hy) hs.2.1 (hL1.keep hy)
          rw [strB_of (dgN_lt hM K)] at this
          exact this
        · subst hf1 hf2 hK hL
          by_cases e : K = L
          · subst e
            rw [allB_true (fun i _ => decide_eq_true rfl)]
            simp
          · have h3 : ((K : Int) == (L : Int)) = false := by simpa using fun h => e (by omega)
            rw [h3]
            cases h4 : allB (fun i => decide (((dgN (chN st) n K i : Nat) : Int) = ((dgN (chN st) n L i : Nat) : Int))) n with
            | false => rfl
            | true =>
              refine absurd (dgN_inj (chN_pos hM) hKl hLl fun i hi => ?_) e
              have := of_decide_eq_true (allB_get h4 hi)
              omega
  cases hM : moB n st && strB n m st f with
  | false =>
    exact means_all A B n c m d pl jj kk _ hb w HFa HAw hl st f 0 (fun _ => st0) 1
      (fun wx hx => (mfix_no A B n c m d _ _ wx (V1.keep hx) (T1.keep hx) hM).mono fun _ _ => RetMd.none _) hB (Lib.hid (.inl rfl)) m1 m2 f1 f2 e1 e2 N1 N2 HE
  | true =>
    obtain ⟨h1, h2⟩ := Bool.and_eq_true_iff.1 hM
    obtain ⟨hmn, hf⟩ := strB_lt h2
    subst hmn
    rw [h1] at V1
    rw [h2] at T1
    have hsz := szs_fix hs fun i hi => (hf i hi).2
    have hn40 := moB_n h1
    have ok1 : ∀ wx A1 c1 st1, Lst wx A1 m st1 → (∀ i, i < m → StL (st1 i) (fixT st f i)) → moB m st1 = true ∧ CV 20 #[.agg #[.slice A1 m c1]] (.bool true) wx := fun wx A1 c1 st1 hL hl1 => by
      have hM1 : moB m st1 = true := by rw [moB_like hl1]; exact moB_fix h1 hf
      have V := mv_cv (c := c1) (szs_like hl1 hsz) hL
      rw [hM1] at V
      exact ⟨hM1, V⟩
    refine means_all A B m c m d pl jj kk _ hb w HFa HAw hl st f m (fixT st f) 0
      (fun wx hx => mfix_ok A B m c d st f wx h1 hf (hA.keep hx) (hB.keep hx) (V1.keep hx) (T1.keep hx)) hB
      (Lib.hid (.inr ⟨rfl, rfl, rfl, hn40.1, by omega, rfl, hsz, fun wx A1 c1 st1 hL hl1 => ?_, fun wx A1 c1 st1 hL hl1 => ?_, ?_⟩)) m1 m2 f1 f2 e1 e2 N1 N2 HE
    · obtain ⟨-, V⟩ := ok1 wx A1 c1 st1 hL hl1
      have := chain_ok A1 m c1 st1 wx hs.1 hL V
      rw [one_ok hl1] at this
      exact this
    · obtain ⟨hM1, V⟩ := ok1 wx A1 c1 st1 hL hl1
      exact mcount_ok A1 m c1 st1 wx hM1 hL V 1 0 (Lib.hid (cnt_one hl1))
    · by_cases hp : pl = 0 ∨ pl = 1
      · refine .inr ⟨hp, fun wx hx => mfor_ok A B m c d st f pl wx hp h1 hf (hA.keep hx) (hB.keep hx) (V1.keep hx) (T1.keep hx), fun wx A2 c2 st2 B2 d2 hL hl2 hB2 => ?_⟩
        have hM2 : moB m st2 = true := by rw [moB_like hl2]; exact moB_for pl h1 hf
        have hf2 := tF_ok hl2 hf
        have hs2 := szs_like hl2 (szs_for pl hs fun i hi => (hf i hi).2)
        have V := mv_cv (c := c2) hs2 hL
        rw [hM2] at V
        have T2 : CV 52 #[.agg #[.slice A2 m c2], .slice B2 m d2] (.bool true) wx := fun wy hy => by
          have := isStr_any A2 B2 m c2 m d2 st2 (tF st f pl) wy hs2.1 (by omega) (hL.keep hy) hs2.2.1 (hB2.keep hy)
          rw [strB_of hf2] at this
          exact this
        refine (mfor_ok A2 B2 m c2 d2 st2 (tF st f pl) (1 - pl) wx (by omega) hM2 hf2 hL hB2 V T2).mono ?_
        rintro e w' ⟨A5, c5, s5, he, hL5, hl5, hb5⟩
        exact ⟨A5, c5, s5, he, hL5, fun i hi => (hl5 i hi).trans (both_fixed hp h1 hf hl2 i hi), hb5⟩
      · exact .inl ⟨hp, fun wx hx => (mfor_far A B m c m d pl wx hp (V1.keep hx) (T1.keep hx)).mono fun _ _ => RetMd.none _⟩
end Go.Proofs.YtokbejkkpekpnaaGreatDoor
