/- Identical models, by the program. -/
import Derived.Test.YtabaknkjcoibpaaGreatDoorM46
import Derived.Test.YtabaknkjcoibpaaGreatDoorM39

namespace Go.Proofs.YtabaknkjcoibpaaGreatDoor
open Go.RowKit

def brE (h h' : ChV) (j : Nat) : Bool := (h.tw j == h'.tw j) && (h.ct j == h'.ct j) && (h.cl j == h'.cl j)
def chE (h h' : ChV) : Bool := (h.t == h'.t) && (h.l == h'.l) && (((h.n : Int) == (h'.n : Int)) && allB (brE h h') h.n)
def stE (s s' : StV) : Bool := (s.ow == s'.ow) && (s.mrk == s'.mrk) && (((s.n : Int) == (s'.n : Int)) && allB (fun j => chE (s.ch j) (s'.ch j)) s.n)
def moE (n n' : Nat) (st st' : Nat → StV) : Bool := ((n : Int) == (n' : Int)) && allB (fun i => stE (st i) (st' i)) n
theorem int_same {n m : Nat} (h : ((n : Int) == (m : Int)) = true) : n = m := by
  have := beq_iff_eq.1 h
  omega
theorem ne_of_beq {x y : Int} (h : (x == y) = false) : (x != y) = true := by
  show (!(x == y)) = true
  rw [h]
  rfl
theorem not_of_beq {x y : Int} (h : (x == y) = false) : ¬ x = y := fun e => by
  rw [e, beq_self_eq_true] at h
  cases h

set_option maxRecDepth 100000 in
set_option maxHeartbeats 8000000 in
theorem seq_len (A B : Option Addr) (n c m d : Nat) (w : World) (_hn : n ≤ 9223372036854775807) (_hm : m ≤ 9223372036854775807) (g : ((n : Int) != (m : Int)) = true) :
    Calls Tryz.prog 100 #[.slice A n c, .slice B m d] w fun e w' => e = .returned (.bool false) ∧ Below w.heap.size w w' := by
  go_enter Tryz.func100, Tryz.ntmps100
  go_wp2_with fail
  go_ret
  exact ⟨rfl, Below.refl _ _⟩

set_option maxRecDepth 100000 in
set_option maxHeartbeats 8000000 in
theorem seq_same (A B : Option Addr) (n c d : Nat) (x y z x' y' z' : Nat → Int) (w : World) (hn : n ≤ 9223372036854775807) (hA : Lbr w A n x y z) (hB : Lbr w B n x' y' z') :
    Calls Tryz.prog 100 #[.slice A n c, .slice B n d] w fun e w' => e = .returned (.bool (allB (fun j => (x j == x' j) && (y j == y' j) && (z j == z' j)) n)) ∧ Below w.heap.size w w' := by
  have HA := Lib.hid hA
  have HB := Lib.hid hB
  have g : ((n : Int) != (n : Int)) = false := by simp
  clear hA hB
  go_enter Tryz.func100, Tryz.ntmps100
  go_wp2_with fail
  go_loopw [13] (fun i wr => ∃ k : Nat, Hid (k ≤ n) ∧ i = .int .i64 (k : Int) ∧ Hid (∀ j, j < k → ((x j == x' j) && (y j == y' j) && (z j == z' j)) = true) ∧ Hid (Below w.heap.size w wr)) (fun i _ => n - (intOf i).toNat)
  case atStart => exact ⟨0, Nat.zero_le _, rfl, Lib.hid (fun i hi => absurd hi (by omega)), Lib.hid (Below.refl _ _)⟩
  case round =>
    obtain ⟨k, hk, rfl, hv, hW⟩ := hrel
    by_cases hlt : k < n
    · obtain ⟨b, off, rfl, hb, hcells⟩ := HA.out.keep hW.out (by omega)
      obtain ⟨hc0, hc1, hc2⟩ := hcells k hlt
      obtain ⟨b', off', rfl, hb', hcells'⟩ := HB.out.keep hW.out (by omega)
      obtain ⟨hd0, hd1, hd2⟩ := hcells' k hlt
      dsimp only at hc0 hc1 hc2 hd0 hd1 hd2
      have hlt' : (k : Int) < (n : Int) := by omega
      have HP1 : Hid ((x k == x' k) = false → allB (fun j => (x j == x' j) && (y j == y' j) && (z j == z' j)) n = false) := Lib.hid fun h => allB_false hlt (by rw [h]; rfl)
      have HP2 : Hid ((y k == y' k) = false → allB (fun j => (x j == x' j) && (y j == y' j) && (z j == z' j)) n = false) := Lib.hid fun h => allB_false hlt (by rw [h]; simp)
      have HP3 : Hid ((z k == z' k) = false → allB (fun j => (x j == x' j) && (y j == y' j) && (z j == z' j)) n = false) := Lib.hid fun h => allB_false hlt (by rw [h]; simp)
      have HPT : Hid (x k = x' k → y k = y' k → z k = z' k → ∀ i, i < k + 1 → ((x i == x' i) && (y i == y' i) && (z i == z' i)) = true) := Lib.hid fun h1 h2 h3 i hi => by
        by_cases e : i = k
        · rw [e, h1, h2, h3]; simp
        · exact hv.out i (by omega)
      clear hcells hcells'
      generalize x k = xk at hc0 HP1 HPT
      generalize y k = yk at hc1 HP2 HPT
      generalize z k = zk at hc2 HP3 HPT
      generalize x' k = xk' at hd0 HP1 HPT
      generalize y' k = yk' at hd1 HP2 HPT
      generalize z' k = zk' at hd2 HP3 HPT
      cases e1 : (xk == xk') with
      | false =>
        have HE := Lib.hid (HP1.out e1)
        have h1 := not_of_beq e1
        clear e1
        go_wp2_with fail
        go_quiet (fail)
        go_wp2_with fail
        go_ret
        exact ⟨by rw [HE.out]; rfl, hW.out.trans (Drn.below ⟨_, rfl⟩ _)⟩
      | true =>
      obtain rfl := beq_iff_eq.1 e1
      clear e1
      cases e2 : (yk == yk') with
      | false =>
        have HE := Lib.hid (HP2.out e2)
        have h1 := not_of_beq e2
        clear e2
        go_wp2_with fail
        go_quiet (fail)
        go_wp2_with fail
        go_ret
        exact ⟨by rw [HE.out]; rfl, hW.out.trans (Drn.below ⟨_, rfl⟩ _)⟩
      | true =>
      obtain rfl := beq_iff_eq.1 e2
      clear e2
      cases e3 : (zk == zk') with
      | false =>
        have HE := Lib.hid (HP3.out e3)
        have h1 := not_of_beq e3
        clear e3
        go_wp2_with fail
        go_quiet (fail)
        go_wp2_with fail
        go_ret
        exact ⟨by rw [HE.out]; rfl, hW.out.trans (Drn.below ⟨_, rfl⟩ _)⟩
      | true =>
        obtain rfl := beq_iff_eq.1 e3
        have HV := Lib.hid (HPT.out rfl rfl rfl)
        clear e3 hv HPT HP1 HP2 HP3
        go_wp2_with fail
        go_quiet (fail)
        go_wp2_with fail
        exact ⟨⟨k + 1, Lib.hid (by omega), by rw [show ((k + 1 : Nat) : Int) = (k : Int) + 1 from by omega], HV, Lib.hid (hW.out.trans (Drn.below ⟨_, rfl⟩ _))⟩, by simp [intOf]; omega⟩
    · have hke : k = n := by have := hk.out; omega
      have HE : Hid (allB (fun j => (x j == x' j) && (y j == y' j) && (z j == z' j)) n = true) := allB_true (fun i hi => hv.out i (by omega))
      have hlt' : ¬ (k : Int) < (n : Int) := by omega
      clear hke hv
      go_wp2_with fail
      go_ret
      exact ⟨by rw [HE.out]; rfl, hW.out⟩

theorem seq_any (A B : Option Addr) (n c m d : Nat) (x y z x' y' z' : Nat → Int) (w : World) (hn : n ≤ 9223372036854775807) (hm : m ≤ 9223372036854775807) (hA : Lbr w A n x y z) (hB : Lbr w B m x' y' z') :
    Calls Tryz.prog 100 #[.slice A n c, .slice B m d] w fun e w' => e = .returned (.bool (((n : Int) == (m : Int)) && allB (fun j => (x j == x' j) && (y j == y' j) && (z j == z' j)) n)) ∧ Below w.heap.size w w' := by
  cases g : ((n : Int) == (m : Int)) with
  | false => exact seq_len A B n c m d w hn hm (ne_of_beq g)
  | true =>
    obtain rfl := int_same g
    exact seq_same A B n c d x y z x' y' z' w hn hA hB

set_option maxRecDepth 100000 in
set_option maxHeartbeats 8000000 in
theorem eqC_len (A B : Option Addr) (n c m d : Nat) (w : World) (_hn : n ≤ 9223372036854775807) (_hm : m ≤ 9223372036854775807) (g : ((n : Int) != (m : Int)) = true) :
    Calls Tryz.prog 57 #[.slice A n c, .slice B m d, .func (.func 58) #[] #[]] w fun e w' => e = .returned (.bool false) ∧ Below w.heap.size w w' := by
  go_enter Tryz.func57, Tryz.ntmps57
  go_wp2_with fail
  go_ret
  exact ⟨rfl, Below.refl _ _⟩

set_option maxRecDepth 100000 in
set_option maxHeartbeats 8000000 in
theorem eqC_same (A B : Option Addr) (n c d : Nat) (s s' : Nat → ChV) (p : Nat → Bool) (w : World) (hn : n ≤ 9223372036854775807) (hA : Rows3 w A n (fun i => .int .i64 (s i).t) (fun i => .int .i64 (s i).l) (fun i => .slice (s i).A (s i).n (s i).c)) (hB : Rows3 w B n (fun i => .int .i64 (s' i).t) (fun i => .int .i64 (s' i).l) (fun i => .slice (s' i).A (s' i).n (s' i).c))
    (HF : Hid (∀ i, i < n → CV 58 #[.agg #[.int .i64 (s i).t, .int .i64 (s i).l, .slice (s i).A (s i).n (s i).c], .agg #[.int .i64 (s' i).t, .int .i64 (s' i).l, .slice (s' i).A (s' i).n (s' i).c]] (.bool (p i)) w)) :
    Calls Tryz.prog 57 #[.slice A n c, .slice B n d, .func (.func 58) #[] #[]] w fun e w' => e = .returned (.bool (allB p n)) ∧ Below w.heap.size w w' := by
  have HA := Lib.hid hA
  have HB := Lib.hid hB
  have g : ((n : Int) != (n : Int)) = false := by simp
  clear hA hB
  go_enter Tryz.func57, Tryz.ntmps57
  go_wp2_with fail
  go_loopw [17] (fun i wr => ∃ k : Nat, Hid (k ≤ n) ∧ i = .int .i64 (k : Int) ∧ Hid (∀ j, j < k → p j = true) ∧ Hid (Below w.heap.size w wr)) (fun i _ => n - (intOf i).toNat)
  case atStart => exact ⟨0, Nat.zero_le _, rfl, Lib.hid (fun i hi => absurd hi (by omega)), Lib.hid (Below.refl _ _)⟩
  case round =>
    obtain ⟨k, hk, rfl, hv, hW⟩ := hrel
    by_cases hlt : k < n
    · obtain ⟨b, off, rfl, hb, hcells⟩ := HA.out.keep hW.out (by omega)
      obtain ⟨hc0, hc1, hc2⟩ := hcells k hlt
      obtain ⟨b', off', rfl, hb', hcells'⟩ := HB.out.keep hW.out (by omega)
      obtain ⟨hd0, hd1, hd2⟩ := hcells' k hlt
      dsimp only at hc0 hc1 hc2 hd0 hd1 hd2
      have hlt' : (k : Int) < (n : Int) := by omega
      have HFk := Lib.hid (HF.out k hlt)
      clear hcells hcells'
      generalize hpv : p k = pv at HFk
      have HP := Lib.hid hpv
      clear hpv
      generalize (s k).t = x0 at hc0 HFk
      generalize (s k).l = x1 at hc1 HFk
      generalize (s k).A = x2 at hc2 HFk
      generalize (s k).n = x3 at hc2 HFk
      generalize (s k).c = x4 at hc2 HFk
      generalize (s' k).t = y0 at hd0 HFk
      generalize (s' k).l = y1 at hd1 HFk
      generalize (s' k).A = y2 at hd2 HFk
      generalize (s' k).n = y3 at hd2 HFk
      generalize (s' k).c = y4 at hd2 HFk
      go_upto_region 6 with fail
      generalize hY : wr.alloc _ = Y
      have hYr : Below wr.heap.size wr Y := by subst hY; exact below_alloc _ _
      have BY : Hid (Bc3 Y wr.heap.size (.int .i64 x0) (.int .i64 x1) (.slice x2 x3 x4)) := by rw [← hY]; exact Bc3.new _ _ _ _ _
      replace hd0 := (hYr.cell (p := ⟨b', off' + k * 3, none⟩) hb').trans hd0
      replace hd1 := (hYr.cell (p := ⟨b', off' + k * 3 + 1, none⟩) hb').trans hd1
      replace hd2 := (hYr.cell (p := ⟨b', off' + k * 3 + 2, none⟩) hb').trans hd2
      have HWY := Lib.hid (hW.out.trans (hYr.mono hW.out.size))
      clear hY hYr hc0 hc1 hc2 hb hb' hW
      go_upto_region 7 with fail
      generalize hZ : Y.alloc _ = Z
      have hZr : Below Y.heap.size Y Z := by subst hZ; exact below_alloc _ _
      have BZ := Lib.hid (BY.out.keep hZr)
      have BZ2 : Hid (Bc3 Z Y.heap.size (.int .i64 y0) (.int .i64 y1) (.slice y2 y3 y4)) := by rw [← hZ]; exact Bc3.new _ _ _ _ _
      have HWZ := Lib.hid (HWY.out.trans (hZr.mono HWY.out.size))
      clear hZ hZr hd0 hd1 hd2 BY HWY
      obtain ⟨j0, j1, j2, -⟩ := BZ.out
      obtain ⟨k0, k1, k2, -⟩ := BZ2.out
      go_wp2_with fail
      (with_reducible refine (HFk.out.run HWZ.out).mono ?_)
      rintro e w1 ⟨rfl, hB1⟩
      have HB1 := Lib.hid (HWZ.out.trans (hB1.mono HWZ.out.size))
      clear j0 j1 j2 k0 k1 k2 hB1 BZ BZ2 HWZ HFk
      cases pv with
      | false =>
        have HE : Hid (allB p n = false) := allB_false hlt HP.out
        go_wp2_with fail
        go_ret
        exact ⟨by rw [HE.out]; rfl, HB1.out⟩
      | true =>
        have HV : Hid (∀ i, i < k + 1 → p i = true) := fun i hi => by
          by_cases e : i = k
          · rw [e]; exact HP.out
          · exact hv.out i (by omega)
        clear hv HP
        go_wp2_with fail
        exact ⟨⟨k + 1, Lib.hid (by omega), by rw [show ((k + 1 : Nat) : Int) = (k : Int) + 1 from by omega], HV, HB1⟩, by simp [intOf]; omega⟩
    · have hke : k = n := by have := hk.out; omega
      have HE : Hid (allB p n = true) := allB_true (fun i hi => hv.out i (by omega))
      have hlt' : ¬ (k : Int) < (n : Int) := by omega
      clear hke hv
      go_wp2_with fail
      go_ret
      exact ⟨by rw [HE.out]; rfl, hW.out⟩

theorem eqC_any (A B : Option Addr) (n c m d : Nat) (s s' : Nat → ChV) (p : Nat → Bool) (w : World) (hn : n ≤ 9223372036854775807) (hm : m ≤ 9223372036854775807) (hA : Rows3 w A n (fun i => .int .i64 (s i).t) (fun i => .int .i64 (s i).l) (fun i => .slice (s i).A (s i).n (s i).c)) (hB : Rows3 w B m (fun i => .int .i64 (s' i).t) (fun i => .int .i64 (s' i).l) (fun i => .slice (s' i).A (s' i).n (s' i).c))
    (HF : Hid (n = m → ∀ i, i < n → CV 58 #[.agg #[.int .i64 (s i).t, .int .i64 (s i).l, .slice (s i).A (s i).n (s i).c], .agg #[.int .i64 (s' i).t, .int .i64 (s' i).l, .slice (s' i).A (s' i).n (s' i).c]] (.bool (p i)) w)) :
    Calls Tryz.prog 57 #[.slice A n c, .slice B m d, .func (.func 58) #[] #[]] w fun e w' => e = .returned (.bool (((n : Int) == (m : Int)) && allB p n)) ∧ Below w.heap.size w w' := by
  cases g : ((n : Int) == (m : Int)) with
  | false => exact eqC_len A B n c m d w hn hm (ne_of_beq g)
  | true =>
    obtain rfl := int_same g
    exact eqC_same A B n c d s s' p w hn hA hB (Lib.hid (HF.out rfl))

set_option maxRecDepth 100000 in
set_option maxHeartbeats 8000000 in
theorem eqS_len (A B : Option Addr) (n c m d : Nat) (w : World) (_hn : n ≤ 9223372036854775807) (_hm : m ≤ 9223372036854775807) (g : ((n : Int) != (m : Int)) = true) :
    Calls Tryz.prog 55 #[.slice A n c, .slice B m d, .func (.func 56) #[] #[]] w fun e w' => e = .returned (.bool false) ∧ Below w.heap.size w w' := by
  go_enter Tryz.func55, Tryz.ntmps55
  go_wp2_with fail
  go_ret
  exact ⟨rfl, Below.refl _ _⟩

set_option maxRecDepth 100000 in
set_option maxHeartbeats 8000000 in
theorem eqS_same (A B : Option Addr) (n c d : Nat) (s s' : Nat → StV) (p : Nat → Bool) (w : World) (hn : n ≤ 9223372036854775807) (hA : Rows3 w A n (fun i => .int .i64 (s i).ow) (fun i => .int .i64 (s i).mrk) (fun i => .slice (s i).A (s i).n (s i).c)) (hB : Rows3 w B n (fun i => .int .i64 (s' i).ow) (fun i => .int .i64 (s' i).mrk) (fun i => .slice (s' i).A (s' i).n (s' i).c))
    (HF : Hid (∀ i, i < n → CV 56 #[.agg #[.int .i64 (s i).ow, .int .i64 (s i).mrk, .slice (s i).A (s i).n (s i).c], .agg #[.int .i64 (s' i).ow, .int .i64 (s' i).mrk, .slice (s' i).A (s' i).n (s' i).c]] (.bool (p i)) w)) :
    Calls Tryz.prog 55 #[.slice A n c, .slice B n d, .func (.func 56) #[] #[]] w fun e w' => e = .returned (.bool (allB p n)) ∧ Below w.heap.size w w' := by
  have HA := Lib.hid hA
  have HB := Lib.hid hB
  have g : ((n : Int) != (n : Int)) = false := by simp
  clear hA hB
  go_enter Tryz.func55, Tryz.ntmps55
  go_wp2_with fail
  go_loopw [17] (fun i wr => ∃ k : Nat, Hid (k ≤ n) ∧ i = .int .i64 (k : Int) ∧ Hid (∀ j, j < k → p j = true) ∧ Hid (Below w.heap.size w wr)) (fun i _ => n - (intOf i).toNat)
  case atStart => exact ⟨0, Nat.zero_le _, rfl, Lib.hid (fun i hi => absurd hi (by omega)), Lib.hid (Below.refl _ _)⟩
  case round =>
    obtain ⟨k, hk, rfl, hv, hW⟩ := hrel
    by_cases hlt : k < n
    · obtain ⟨b, off, rfl, hb, hcells⟩ := HA.out.keep hW.out (by omega)
      obtain ⟨hc0, hc1, hc2⟩ := hcells k hlt
      obtain ⟨b', off', rfl, hb', hcells'⟩ := HB.out.keep hW.out (by omega)
      obtain ⟨hd0, hd1, hd2⟩ := hcells' k hlt
      dsimp only at hc0 hc1 hc2 hd0 hd1 hd2
      have hlt' : (k : Int) < (n : Int) := by omega
      have HFk := Lib.hid (HF.out k hlt)
      clear hcells hcells'
      generalize hpv : p k = pv at HFk
      have HP := Lib.hid hpv
      clear hpv
      generalize (s k).ow = x0 at hc0 HFk
      generalize (s k).mrk = x1 at hc1 HFk
      generalize (s k).A = x2 at hc2 HFk
      generalize (s k).n = x3 at hc2 HFk
      generalize (s k).c = x4 at hc2 HFk
      generalize (s' k).ow = y0 at hd0 HFk
      generalize (s' k).mrk = y1 at hd1 HFk
      generalize (s' k).A = y2 at hd2 HFk
      generalize (s' k).n = y3 at hd2 HFk
      generalize (s' k).c = y4 at hd2 HFk
      go_upto_region 6 with fail
      generalize hY : wr.alloc _ = Y
      have hYr : Below wr.heap.size wr Y := by subst hY; exact below_alloc _ _
      have BY : Hid (Bc3 Y wr.heap.size (.int .i64 x0) (.int .i64 x1) (.slice x2 x3 x4)) := by rw [← hY]; exact Bc3.new _ _ _ _ _
      replace hd0 := (hYr.cell (p := ⟨b', off' + k * 3, none⟩) hb').trans hd0
      replace hd1 := (hYr.cell (p := ⟨b', off' + k * 3 + 1, none⟩) hb').trans hd1
      replace hd2 := (hYr.cell (p := ⟨b', off' + k * 3 + 2, none⟩) hb').trans hd2
      have HWY := Lib.hid (hW.out.trans (hYr.mono hW.out.size))
      clear hY hYr hc0 hc1 hc2 hb hb' hW
      go_upto_region 7 with fail
      generalize hZ : Y.alloc _ = Z
      have hZr : Below Y.heap.size Y Z := by subst hZ; exact below_alloc _ _
      have BZ := Lib.hid (BY.out.keep hZr)
      have BZ2 : Hid (Bc3 Z Y.heap.size (.int .i64 y0) (.int .i64 y1) (.slice y2 y3 y4)) := by rw [← hZ]; exact Bc3.new _ _ _ _ _
      have HWZ := Lib.hid (HWY.out.trans (hZr.mono HWY.out.size))
      clear hZ hZr hd0 hd1 hd2 BY HWY
      obtain ⟨j0, j1, j2, -⟩ := BZ.out
      obtain ⟨k0, k1, k2, -⟩ := BZ2.out
      go_wp2_with fail
      (with_reducible refine (HFk.out.run HWZ.out).mono ?_)
      rintro e w1 ⟨rfl, hB1⟩
      have HB1 := Lib.hid (HWZ.out.trans (hB1.mono HWZ.out.size))
      clear j0 j1 j2 k0 k1 k2 hB1 BZ BZ2 HWZ HFk
      cases pv with
      | false =>
        have HE : Hid (allB p n = false) := allB_false hlt HP.out
        go_wp2_with fail
        go_ret
        exact ⟨by rw [HE.out]; rfl, HB1.out⟩
      | true =>
        have HV : Hid (∀ i, i < k + 1 → p i = true) := fun i hi => by
          by_cases e : i = k
          · rw [e]; exact HP.out
          · exact hv.out i (by omega)
        clear hv HP
        go_wp2_with fail
        exact ⟨⟨k + 1, Lib.hid (by omega), by rw [show ((k + 1 : Nat) : Int) = (k : Int) + 1 from by omega], HV, HB1⟩, by simp [intOf]; omega⟩
    · have hke : k = n := by have := hk.out; omega
      have HE : Hid (allB p n = true) := allB_true (fun i hi => hv.out i (by omega))
      have hlt' : ¬ (k : Int) < (n : Int) := by omega
      clear hke hv
      go_wp2_with fail
      go_ret
      exact ⟨by rw [HE.out]; rfl, hW.out⟩

theorem eqS_any (A B : Option Addr) (n c m d : Nat) (s s' : Nat → StV) (p : Nat → Bool) (w : World) (hn : n ≤ 9223372036854775807) (hm : m ≤ 9223372036854775807) (hA : Rows3 w A n (fun i => .int .i64 (s i).ow) (fun i => .int .i64 (s i).mrk) (fun i => .slice (s i).A (s i).n (s i).c)) (hB : Rows3 w B m (fun i => .int .i64 (s' i).ow) (fun i => .int .i64 (s' i).mrk) (fun i => .slice (s' i).A (s' i).n (s' i).c))
    (HF : Hid (n = m → ∀ i, i < n → CV 56 #[.agg #[.int .i64 (s i).ow, .int .i64 (s i).mrk, .slice (s i).A (s i).n (s i).c], .agg #[.int .i64 (s' i).ow, .int .i64 (s' i).mrk, .slice (s' i).A (s' i).n (s' i).c]] (.bool (p i)) w)) :
    Calls Tryz.prog 55 #[.slice A n c, .slice B m d, .func (.func 56) #[] #[]] w fun e w' => e = .returned (.bool (((n : Int) == (m : Int)) && allB p n)) ∧ Below w.heap.size w w' := by
  cases g : ((n : Int) == (m : Int)) with
  | false => exact eqS_len A B n c m d w hn hm (ne_of_beq g)
  | true =>
    obtain rfl := int_same g
    exact eqS_same A B n c d s s' p w hn hA hB (Lib.hid (HF.out rfl))

set_option maxRecDepth 100000 in
set_option maxHeartbeats 8000000 in
theorem arei_any (x1 x2 : Int) (xA : Option Addr) (xn xc : Nat) (y1 y2 : Int) (yA : Option Addr) (yn yc : Nat) (r : Bool) (w : World) (HC : Hid (CV 100 #[.slice xA xn xc, .slice yA yn yc] (.bool r) w)) :
    Calls Tryz.prog 58 #[.agg #[.int .i64 x1, .int .i64 x2, .slice xA xn xc], .agg #[.int .i64 y1, .int .i64 y2, .slice yA yn yc]] w fun e w' => e = .returned (.bool ((x1 == y1) && (x2 == y2) && r)) ∧ Below w.heap.size w w' := by
  cases e1 : (x1 == y1) with
  | false =>
    rw [Bool.false_and, Bool.false_and]
    have h1 := not_of_beq e1
    go_enter Tryz.func58, Tryz.ntmps58
    go_upto_region 1 with fail
    generalize hZ : World.alloc _ _ = Z
    have HZ : Hid (Below w.heap.size w Z) := by rw [← hZ]; exact (below_alloc _ _).trans ((below_alloc _ _).mono (by simp))
    have BX : Hid (Bc3 Z w.heap.size (.int .i64 x1) (.int .i64 x2) (.slice xA xn xc)) := by rw [← hZ]; exact (Bc3.new _ _ _ _ _).keep (below_alloc _ _)
    have BY : Hid (Bc3 Z (w.heap.size + 1) (.int .i64 y1) (.int .i64 y2) (.slice yA yn yc)) := by
      rw [← hZ]
      have := Bc3.new (w.alloc (.cells #[.int .i64 x1, .int .i64 x2, .slice xA xn xc] 65)) (.int .i64 y1) (.int .i64 y2) (.slice yA yn yc) 65
      rw [show (w.alloc (.cells #[.int .i64 x1, .int .i64 x2, .slice xA xn xc] 65)).heap.size = w.heap.size + 1 from by simp] at this
      exact this
    clear hZ
    obtain ⟨j0, j1, j2, -⟩ := BX.out
    obtain ⟨k0, k1, k2, -⟩ := BY.out
    go_wp2_with fail
    go_ret
    exact ⟨rfl, HZ.out⟩
  | true =>
  obtain rfl := beq_iff_eq.1 e1
  clear e1
  cases e2 : (x2 == y2) with
  | false =>
    rw [Bool.and_false, Bool.false_and]
    have h1 := not_of_beq e2
    go_enter Tryz.func58, Tryz.ntmps58
    go_upto_region 1 with fail
    generalize hZ : World.alloc _ _ = Z
    have HZ : Hid (Below w.heap.size w Z) := by rw [← hZ]; exact (below_alloc _ _).trans ((below_alloc _ _).mono (by simp))
    have BX : Hid (Bc3 Z w.heap.size (.int .i64 x1) (.int .i64 x2) (.slice xA xn xc)) := by rw [← hZ]; exact (Bc3.new _ _ _ _ _).keep (below_alloc _ _)
    have BY : Hid (Bc3 Z (w.heap.size + 1) (.int .i64 x1) (.int .i64 y2) (.slice yA yn yc)) := by
      rw [← hZ]
      have := Bc3.new (w.alloc (.cells #[.int .i64 x1, .int .i64 x2, .slice xA xn xc] 65)) (.int .i64 x1) (.int .i64 y2) (.slice yA yn yc) 65
      rw [show (w.alloc (.cells #[.int .i64 x1, .int .i64 x2, .slice xA xn xc] 65)).heap.size = w.heap.size + 1 from by simp] at this
      exact this
    clear hZ
    obtain ⟨j0, j1, j2, -⟩ := BX.out
    obtain ⟨k0, k1, k2, -⟩ := BY.out
    go_wp2_with fail
    go_ret
    exact ⟨rfl, HZ.out⟩
  | true =>
  obtain rfl := beq_iff_eq.1 e2
  clear e2
  rw [Bool.and_self, Bool.true_and]
  go_enter Tryz.func58, Tryz.ntmps58
  go_upto_region 1 with fail
  generalize hZ : World.alloc _ _ = Z
  have HZ : Hid (Below w.heap.size w Z) := by rw [← hZ]; exact (below_alloc _ _).trans ((below_alloc _ _).mono (by simp))
  have BX : Hid (Bc3 Z w.heap.size (.int .i64 x1) (.int .i64 x2) (.slice xA xn xc)) := by rw [← hZ]; exact (Bc3.new _ _ _ _ _).keep (below_alloc _ _)
  have BY : Hid (Bc3 Z (w.heap.size + 1) (.int .i64 x1) (.int .i64 x2) (.slice yA yn yc)) := by
    rw [← hZ]
    have := Bc3.new (w.alloc (.cells #[.int .i64 x1, .int .i64 x2, .slice xA xn xc] 65)) (.int .i64 x1) (.int .i64 x2) (.slice yA yn yc) 65
    rw [show (w.alloc (.cells #[.int .i64 x1, .int .i64 x2, .slice xA xn xc] 65)).heap.size = w.heap.size + 1 from by simp] at this
    exact this
  clear hZ
  obtain ⟨j0, j1, j2, -⟩ := BX.out
  obtain ⟨k0, k1, k2, -⟩ := BY.out
  go_wp2_with fail
  (with_reducible refine (HC.out.run HZ.out).mono ?_)
  rintro e w1 ⟨rfl, hB1⟩
  have HB1 := Lib.hid (HZ.out.trans (hB1.mono HZ.out.size))
  clear j0 j1 j2 k0 k1 k2 hB1
  go_wp2_with fail
  go_ret
  exact ⟨rfl, HB1.out⟩

set_option maxRecDepth 100000 in
set_option maxHeartbeats 8000000 in
theorem idst_any (x1 x2 : Int) (xA : Option Addr) (xn xc : Nat) (y1 y2 : Int) (yA : Option Addr) (yn yc : Nat) (r : Bool) (w : World) (HC : Hid (CV 57 #[.slice xA xn xc, .slice yA yn yc, .func (.func 58) #[] #[]] (.bool r) w)) :
    Calls Tryz.prog 56 #[.agg #[.int .i64 x1, .int .i64 x2, .slice xA xn xc], .agg #[.int .i64 y1, .int .i64 y2, .slice yA yn yc]] w fun e w' => e = .returned (.bool ((x1 == y1) && (x2 == y2) && r)) ∧ Below w.heap.size w w' := by
  cases e1 : (x1 == y1) with
  | false =>
    rw [Bool.false_and, Bool.false_and]
    have h1 := not_of_beq e1
    go_enter Tryz.func56, Tryz.ntmps56
    go_upto_region 1 with fail
    generalize hZ : World.alloc _ _ = Z
    have HZ : Hid (Below w.heap.size w Z) := by rw [← hZ]; exact (below_alloc _ _).trans ((below_alloc _ _).mono (by simp))
    have BX : Hid (Bc3 Z w.heap.size (.int .i64 x1) (.int .i64 x2) (.slice xA xn xc)) := by rw [← hZ]; exact (Bc3.new _ _ _ _ _).keep (below_alloc _ _)
    have BY : Hid (Bc3 Z (w.heap.size + 1) (.int .i64 y1) (.int .i64 y2) (.slice yA yn yc)) := by
      rw [← hZ]
      have := Bc3.new (w.alloc (.cells #[.int .i64 x1, .int .i64 x2, .slice xA xn xc] 53)) (.int .i64 y1) (.int .i64 y2) (.slice yA yn yc) 53
      rw [show (w.alloc (.cells #[.int .i64 x1, .int .i64 x2, .slice xA xn xc] 53)).heap.size = w.heap.size + 1 from by simp] at this
      exact this
    clear hZ
    obtain ⟨j0, j1, j2, -⟩ := BX.out
    obtain ⟨k0, k1, k2, -⟩ := BY.out
    go_wp2_with fail
    go_ret
    exact ⟨rfl, HZ.out⟩
  | true =>
  obtain rfl := beq_iff_eq.1 e1
  clear e1
  cases e2 : (x2 == y2) with
  | false =>
    rw [Bool.and_false, Bool.false_and]
    have h1 := not_of_beq e2
    go_enter Tryz.func56, Tryz.ntmps56
    go_upto_region 1 with fail
    generalize hZ : World.alloc _ _ = Z
    have HZ : Hid (Below w.heap.size w Z) := by rw [← hZ]; exact (below_alloc _ _).trans ((below_alloc _ _).mono (by simp))
    have BX : Hid (Bc3 Z w.heap.size (.int .i64 x1) (.int .i64 x2) (.slice xA xn xc)) := by rw [← hZ]; exact (Bc3.new _ _ _ _ _).keep (below_alloc _ _)
    have BY : Hid (Bc3 Z (w.heap.size + 1) (.int .i64 x1) (.int .i64 y2) (.slice yA yn yc)) := by
      rw [← hZ]
      have := Bc3.new (w.alloc (.cells #[.int .i64 x1, .int .i64 x2, .slice xA xn xc] 53)) (.int .i64 x1) (.int .i64 y2) (.slice yA yn yc) 53
      rw [show (w.alloc (.cells #[.int .i64 x1, .int .i64 x2, .slice xA xn xc] 53)).heap.size = w.heap.size + 1 from by simp] at this
      exact this
    clear hZ
    obtain ⟨j0, j1, j2, -⟩ := BX.out
    obtain ⟨k0, k1, k2, -⟩ := BY.out
    go_wp2_with fail
    go_ret
    exact ⟨rfl, HZ.out⟩
  | true =>
  obtain rfl := beq_iff_eq.1 e2
  clear e2
  rw [Bool.and_self, Bool.true_and]
  go_enter Tryz.func56, Tryz.ntmps56
  go_upto_region 1 with fail
  generalize hZ : World.alloc _ _ = Z
  have HZ : Hid (Below w.heap.size w Z) := by rw [← hZ]; exact (below_alloc _ _).trans ((below_alloc _ _).mono (by simp))
  have BX : Hid (Bc3 Z w.heap.size (.int .i64 x1) (.int .i64 x2) (.slice xA xn xc)) := by rw [← hZ]; exact (Bc3.new _ _ _ _ _).keep (below_alloc _ _)
  have BY : Hid (Bc3 Z (w.heap.size + 1) (.int .i64 x1) (.int .i64 x2) (.slice yA yn yc)) := by
    rw [← hZ]
    have := Bc3.new (w.alloc (.cells #[.int .i64 x1, .int .i64 x2, .slice xA xn xc] 53)) (.int .i64 x1) (.int .i64 x2) (.slice yA yn yc) 53
    rw [show (w.alloc (.cells #[.int .i64 x1, .int .i64 x2, .slice xA xn xc] 53)).heap.size = w.heap.size + 1 from by simp] at this
    exact this
  clear hZ
  obtain ⟨j0, j1, j2, -⟩ := BX.out
  obtain ⟨k0, k1, k2, -⟩ := BY.out
  go_wp2_with fail
  (with_reducible refine (HC.out.run HZ.out).mono ?_)
  rintro e w1 ⟨rfl, hB1⟩
  have HB1 := Lib.hid (HZ.out.trans (hB1.mono HZ.out.size))
  clear j0 j1 j2 k0 k1 k2 hB1
  go_wp2_with fail
  go_ret
  exact ⟨rfl, HB1.out⟩

end Go.Proofs.YtabaknkjcoibpaaGreatDoor
