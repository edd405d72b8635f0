/- Plain models. Plain models: the program's Plain, the reference's Easy. -/
import Derived.Test.YtabaknkjcoibpaaGreatDoorM46

namespace Go.Proofs.YtabaknkjcoibpaaGreatDoor
open Go.RowKit

/-- Some of the first n. -/
def anyB (p : Nat → Bool) (n : Nat) : Bool := !(allB (fun i => !(p i)) n)
theorem anyB_true {p : Nat → Bool} {n i : Nat} (hi : i < n) (h : p i = true) : anyB p n = true := by
  unfold anyB
  rw [allB_false hi (by rw [h]; rfl)]
  rfl
theorem anyB_false {p : Nat → Bool} {n : Nat} (h : ∀ i, i < n → p i = false) : anyB p n = false := by
  unfold anyB
  rw [allB_true (fun i hi => by rw [h i hi]; rfl)]
  rfl
/-- The place of the first one, or -1. -/
def IdxPost (b : Bool) (w : World) (e : Ending) (w' : World) : Prop := ∃ z : Int, e = .returned (.int .i64 z) ∧ decide (0 ≤ z) = b ∧ Below w.heap.size w w'

def brNP (h : ChV) (j : Nat) : Bool := (12 : Int) % h.cl j != 0
def chNP (h : ChV) : Bool := (h.l != 1) || decide (h.t < -100) || decide ((100 : Int) < h.t) || anyB (brNP h) h.n
def stNP (s : StV) : Bool := anyB (fun j => chNP (s.ch j)) s.n
def plainB (n : Nat) (st : Nat → StV) : Bool := !(decide ((8 : Int) < (n : Int))) && !(anyB (fun i => stNP (st i)) n)

set_option maxRecDepth 100000 in
set_option maxHeartbeats 8000000 in
theorem twelve_any (p q r : Int) (w : World) (h1 : 1 ≤ r) (h2 : r ≤ 1152921504606846976) :
    Calls Tryz.prog 92 #[.agg #[.int .i64 p, .int .i64 q, .int .i64 r]] w fun e w' => e = .returned (.bool ((12 : Int) % r != 0)) ∧ Below w.heap.size w w' := by
  have hr : r ≠ 0 := by omega
  go_enter Tryz.func92, Tryz.ntmps92
  go_wp2_with fail
  go_ret
  exact ⟨rfl, below_alloc _ _⟩

set_option maxRecDepth 100000 in
set_option maxHeartbeats 8000000 in
theorem idxB_any (A : Option Addr) (n c : Nat) (x y z : Nat → Int) (p : Nat → Bool) (w : World) (hn : n ≤ 1000000) (hA : Rows3 w A n (fun i => .int .i64 (x i)) (fun i => .int .i64 (y i)) (fun i => .int .i64 (z i)))
    (HF : Hid (∀ i, i < n → CV 92 #[.agg #[.int .i64 (x i), .int .i64 (y i), .int .i64 (z i)]] (.bool (p i)) w)) :
    Calls Tryz.prog 124 #[.slice A n c, .func (.func 92) #[] #[]] w (IdxPost (anyB p n) w) := by
  have HA := Lib.hid hA
  clear hA
  go_enter Tryz.func124, Tryz.ntmps124
  go_wp2_with fail
  go_loopw [8] (fun i wr => ∃ k : Nat, Hid (k ≤ n) ∧ i = .int .i64 (k : Int) ∧ Hid (∀ j, j < k → p j = false) ∧ Hid (Below w.heap.size w wr)) (fun i _ => n - (intOf i).toNat)
  case atStart => exact ⟨0, Nat.zero_le _, rfl, Lib.hid (fun i hi => absurd hi (by omega)), Lib.hid (Below.refl _ _)⟩
  case round =>
    obtain ⟨k, hk, rfl, hv, hB⟩ := hrel
    by_cases hlt : k < n
    · obtain ⟨b, off, rfl, hb, hcells⟩ := HA.out.keep hB.out (by omega)
      obtain ⟨hc0, hc1, hc2⟩ := hcells k hlt
      dsimp only at hc0 hc1 hc2
      have hlt' : (k : Int) < (n : Int) := by omega
      have HFk := Lib.hid (HF.out k hlt)
      clear hcells
      generalize x k = xk at hc0 HFk
      generalize y k = yk at hc1 HFk
      generalize z k = zk at hc2 HFk
      generalize hpv : p k = pv at HFk
      have HP := Lib.hid hpv
      clear hpv
      go_wp2_with fail
      (with_reducible refine (HFk.out.run hB.out).mono ?_)
      rintro e w1 ⟨rfl, hB1⟩
      have HB1 := Lib.hid (hB.out.trans (hB1.mono hB.out.size))
      clear hB1 hc0 hc1 hc2 hb hB HFk
      cases pv with
      | true =>
        have HE : Hid (anyB p n = true) := anyB_true hlt HP.out
        go_wp2_with fail
        go_ret
        exact ⟨(k : Int), rfl, by rw [HE.out]; exact decide_eq_true (by omega), HB1.out⟩
      | false =>
        have HV : Hid (∀ i, i < k + 1 → p i = false) := fun i hi => by
          by_cases e : i = k
          · rw [e]; exact HP.out
          · exact hv.out i (by omega)
        clear hv HP
        go_wp2_with fail
        exact ⟨⟨k + 1, Lib.hid (by omega), by rw [show ((k + 1 : Nat) : Int) = (k : Int) + 1 from by omega], HV, HB1⟩, by simp [intOf]; omega⟩
    · have hke : k = n := by have := hk.out; omega
      have HE : Hid (anyB p n = false) := anyB_false (fun i hi => hv.out i (by omega))
      have hlt' : ¬ (k : Int) < (n : Int) := by omega
      clear hke hv
      go_wp2_with fail
      go_ret
      exact ⟨-1, rfl, by rw [HE.out]; rfl, hB.out⟩

set_option maxRecDepth 100000 in
set_option maxHeartbeats 8000000 in
theorem idxB_has (A : Option Addr) (n c : Nat) (r : Bool) (w : World) (_hn : n ≤ 1000000)
    (HI : Hid (∀ wx, Below w.heap.size w wx → Calls Tryz.prog 124 #[.slice A n c, .func (.func 92) #[] #[]] wx (IdxPost r wx))) :
    Calls Tryz.prog 91 #[.slice A n c, .func (.func 92) #[] #[]] w fun e w' => e = .returned (.bool r) ∧ Below w.heap.size w w' := by
  go_enter Tryz.func91, Tryz.ntmps91
  go_wp2_with fail
  (with_reducible refine (HI.out _ (Below.refl _ _)).mono ?_)
  rintro e w1 ⟨z, rfl, hz, hB1⟩
  have HZ := Lib.hid hz
  have HB1 := Lib.hid hB1
  clear hz hB1
  go_wp2_with fail
  go_ret
  exact ⟨by rw [← HZ.out]; rfl, HB1.out⟩

set_option maxRecDepth 100000 in
set_option maxHeartbeats 8000000 in
theorem idxC_any (A : Option Addr) (n c : Nat) (x y : Nat → Int) (zA : Nat → Option Addr) (zn zc : Nat → Nat) (p : Nat → Bool) (w : World) (hn : n ≤ 1000000) (hA : Rows3 w A n (fun i => .int .i64 (x i)) (fun i => .int .i64 (y i)) (fun i => .slice (zA i) (zn i) (zc i)))
    (HF : Hid (∀ i, i < n → CV 50 #[.agg #[.int .i64 (x i), .int .i64 (y i), .slice (zA i) (zn i) (zc i)]] (.bool (p i)) w)) :
    Calls Tryz.prog 90 #[.slice A n c, .func (.func 50) #[] #[]] w (IdxPost (anyB p n) w) := by
  have HA := Lib.hid hA
  clear hA
  go_enter Tryz.func90, Tryz.ntmps90
  go_wp2_with fail
  go_loopw [8] (fun i wr => ∃ k : Nat, Hid (k ≤ n) ∧ i = .int .i64 (k : Int) ∧ Hid (∀ j, j < k → p j = false) ∧ Hid (Below w.heap.size w wr)) (fun i _ => n - (intOf i).toNat)
  case atStart => exact ⟨0, Nat.zero_le _, rfl, Lib.hid (fun i hi => absurd hi (by omega)), Lib.hid (Below.refl _ _)⟩
  case round =>
    obtain ⟨k, hk, rfl, hv, hB⟩ := hrel
    by_cases hlt : k < n
    · obtain ⟨b, off, rfl, hb, hcells⟩ := HA.out.keep hB.out (by omega)
      obtain ⟨hc0, hc1, hc2⟩ := hcells k hlt
      dsimp only at hc0 hc1 hc2
      have hlt' : (k : Int) < (n : Int) := by omega
      have HFk := Lib.hid (HF.out k hlt)
      clear hcells
      generalize x k = xk at hc0 HFk
      generalize y k = yk at hc1 HFk
      generalize zA k = zAk at hc2 HFk
      generalize zn k = znk at hc2 HFk
      generalize zc k = zck at hc2 HFk
      generalize hpv : p k = pv at HFk
      have HP := Lib.hid hpv
      clear hpv
      go_wp2_with fail
      (with_reducible refine (HFk.out.run hB.out).mono ?_)
      rintro e w1 ⟨rfl, hB1⟩
      have HB1 := Lib.hid (hB.out.trans (hB1.mono hB.out.size))
      clear hB1 hc0 hc1 hc2 hb hB HFk
      cases pv with
      | true =>
        have HE : Hid (anyB p n = true) := anyB_true hlt HP.out
        go_wp2_with fail
        go_ret
        exact ⟨(k : Int), rfl, by rw [HE.out]; exact decide_eq_true (by omega), HB1.out⟩
      | false =>
        have HV : Hid (∀ i, i < k + 1 → p i = false) := fun i hi => by
          by_cases e : i = k
          · rw [e]; exact HP.out
          · exact hv.out i (by omega)
        clear hv HP
        go_wp2_with fail
        exact ⟨⟨k + 1, Lib.hid (by omega), by rw [show ((k + 1 : Nat) : Int) = (k : Int) + 1 from by omega], HV, HB1⟩, by simp [intOf]; omega⟩
    · have hke : k = n := by have := hk.out; omega
      have HE : Hid (anyB p n = false) := anyB_false (fun i hi => hv.out i (by omega))
      have hlt' : ¬ (k : Int) < (n : Int) := by omega
      clear hke hv
      go_wp2_with fail
      go_ret
      exact ⟨-1, rfl, by rw [HE.out]; rfl, hB.out⟩

set_option maxRecDepth 100000 in
set_option maxHeartbeats 8000000 in
theorem idxC_has (A : Option Addr) (n c : Nat) (r : Bool) (w : World) (_hn : n ≤ 1000000)
    (HI : Hid (∀ wx, Below w.heap.size w wx → Calls Tryz.prog 90 #[.slice A n c, .func (.func 50) #[] #[]] wx (IdxPost r wx))) :
    Calls Tryz.prog 49 #[.slice A n c, .func (.func 50) #[] #[]] w fun e w' => e = .returned (.bool r) ∧ Below w.heap.size w w' := by
  go_enter Tryz.func49, Tryz.ntmps49
  go_wp2_with fail
  (with_reducible refine (HI.out _ (Below.refl _ _)).mono ?_)
  rintro e w1 ⟨z, rfl, hz, hB1⟩
  have HZ := Lib.hid hz
  have HB1 := Lib.hid hB1
  clear hz hB1
  go_wp2_with fail
  go_ret
  exact ⟨by rw [← HZ.out]; rfl, HB1.out⟩

set_option maxRecDepth 100000 in
set_option maxHeartbeats 8000000 in
theorem np_w1 (t l : Int) (A : Option Addr) (n c : Nat) (w : World) (g1 : (l != 1) = true) :
    Calls Tryz.prog 50 #[.agg #[.int .i64 t, .int .i64 l, .slice A n c]] w fun e w' => e = .returned (.bool true) ∧ Below w.heap.size w w' := by
  go_enter Tryz.func50, Tryz.ntmps50
  go_wp2_with fail
  go_ret
  exact ⟨rfl, below_alloc _ _⟩

set_option maxRecDepth 100000 in
set_option maxHeartbeats 8000000 in
theorem np_w2 (t l : Int) (A : Option Addr) (n c : Nat) (w : World) (g1 : (l != 1) = false) (g2 : decide (t < -100) = true) :
    Calls Tryz.prog 50 #[.agg #[.int .i64 t, .int .i64 l, .slice A n c]] w fun e w' => e = .returned (.bool true) ∧ Below w.heap.size w w' := by
  go_enter Tryz.func50, Tryz.ntmps50
  go_wp2_with fail
  go_ret
  exact ⟨rfl, below_alloc _ _⟩

set_option maxRecDepth 100000 in
set_option maxHeartbeats 8000000 in
theorem np_w3 (t l : Int) (A : Option Addr) (n c : Nat) (w : World) (g1 : (l != 1) = false) (g2 : decide (t < -100) = false) (g3 : decide ((100 : Int) < t) = true) :
    Calls Tryz.prog 50 #[.agg #[.int .i64 t, .int .i64 l, .slice A n c]] w fun e w' => e = .returned (.bool true) ∧ Below w.heap.size w w' := by
  go_enter Tryz.func50, Tryz.ntmps50
  go_wp2_with fail
  go_ret
  exact ⟨rfl, below_alloc _ _⟩

set_option maxRecDepth 100000 in
set_option maxHeartbeats 8000000 in
theorem np_ok (t l : Int) (A : Option Addr) (n c : Nat) (r : Bool) (w : World) (g1 : (l != 1) = false) (g2 : decide (t < -100) = false) (g3 : decide ((100 : Int) < t) = false)
    (HC : Hid (CV 91 #[.slice A n c, .func (.func 92) #[] #[]] (.bool r) w)) :
    Calls Tryz.prog 50 #[.agg #[.int .i64 t, .int .i64 l, .slice A n c]] w fun e w' => e = .returned (.bool r) ∧ Below w.heap.size w w' := by
  go_enter Tryz.func50, Tryz.ntmps50
  go_wp2_with fail
  (with_reducible refine (HC.out.run (below_alloc _ _)).mono ?_)
  rintro e w1 ⟨rfl, hB1⟩
  have HB1 := Lib.hid ((below_alloc w (.cells #[.int .i64 t, .int .i64 l, .slice A n c] 65)).trans (hB1.mono (below_alloc w (.cells #[.int .i64 t, .int .i64 l, .slice A n c] 65)).size))
  clear hB1
  go_wp2_with fail
  go_ret
  exact ⟨rfl, HB1.out⟩

theorem np_any (h : ChV) (w : World) (hn : h.n ≤ 1000000) (hA : Lbr w h.A h.n h.tw h.ct h.cl) (hv : ∀ j, j < h.n → 1 ≤ h.cl j ∧ h.cl j ≤ 1152921504606846976) :
    Calls Tryz.prog 50 #[.agg #[.int .i64 h.t, .int .i64 h.l, .slice h.A h.n h.c]] w fun e w' => e = .returned (.bool (chNP h)) ∧ Below w.heap.size w w' := by
  unfold chNP
  cases g1 : (h.l != 1) with
  | true => exact np_w1 h.t h.l h.A h.n h.c w g1
  | false =>
  cases g2 : decide (h.t < -100) with
  | true => exact np_w2 h.t h.l h.A h.n h.c w g1 g2
  | false =>
  cases g3 : decide ((100 : Int) < h.t) with
  | true => exact np_w3 h.t h.l h.A h.n h.c w g1 g2 g3
  | false =>
  refine np_ok h.t h.l h.A h.n h.c _ w g1 g2 g3 (Lib.hid fun wx hx => ?_)
  refine idxB_has h.A h.n h.c _ wx hn (Lib.hid fun wy hy => ?_)
  refine idxB_any h.A h.n h.c h.tw h.ct h.cl (brNP h) wy hn ((hA.keep hx).keep hy) (Lib.hid fun i hi wz _ => ?_)
  exact twelve_any _ _ _ wz (hv i hi).1 (hv i hi).2

end Go.Proofs.YtabaknkjcoibpaaGreatDoor

namespace Go.Proofs.YtabaknkjcoibpaaGreatDoor
open Go.RowKit

theorem vld_low {t l : Int} (h : vld t l = true) : 1 ≤ l ∧ l ≤ 1152921504606846976 := by
  simp [vld] at h
  omega
theorem moB_br {n : Nat} {st : Nat → StV} (H : moB n st = true) {i j : Nat} (hi : i < n) (hj : j < (st i).n) : bsB n ((st i).ch j).n ((st i).ch j).tw ((st i).ch j).ct ((st i).ch j).cl = true := chB_bs (stB_ch (moB_st H hi) hj)
theorem moB_low {n : Nat} {st : Nat → StV} (H : moB n st = true) {i j q : Nat} (hi : i < n) (hj : j < (st i).n) (hq : q < ((st i).ch j).n) : 1 ≤ ((st i).ch j).cl q ∧ ((st i).ch j).cl q ≤ 1152921504606846976 := vld_low (brB_open (bsB_br (moB_br H hi hj) hq)).2.2.1

set_option maxRecDepth 100000 in
set_option maxHeartbeats 8000000 in
theorem plain_long (A : Option Addr) (n c : Nat) (w : World) (HV0 : Hid (CV 20 #[.agg #[.slice A n c]] (.bool true) w)) (g : decide ((8 : Int) < (n : Int)) = true) :
    Calls Tryz.prog 17 #[.agg #[.slice A n c]] w fun e w' => e = .returned (.tuple #[.bool false, .int .i64 0]) ∧ Below w.heap.size w w' := by
  go_enter Tryz.func17, Tryz.ntmps17
  go_upto_region 1 with fail
  generalize hX : w.alloc _ = X
  have HX : Hid (Below w.heap.size w X) := by rw [← hX]; exact below_alloc _ _
  have MX : Hid (MBx X w.heap.size A n c) := by rw [← hX]; exact MBx.new _ _ _ _ _
  clear hX
  obtain ⟨x0, -⟩ := MX.out
  go_wp2_with fail
  (with_reducible refine (HV0.out.run HX.out).mono ?_)
  rintro e w1 ⟨rfl, hB1⟩
  have HX1 := Lib.hid (HX.out.trans (hB1.mono HX.out.size))
  have MX1 := Lib.hid (MX.out.keep hB1)
  clear x0 hB1 MX HX
  obtain ⟨x0, -⟩ := MX1.out
  go_wp2_with fail
  go_ret2
  exact ⟨rfl, HX1.out⟩

set_option maxRecDepth 100000 in
set_option maxHeartbeats 8000000 in
theorem plain_ok (A : Option Addr) (n c : Nat) (st : Nat → StV) (w : World) (HV0 : Hid (CV 20 #[.agg #[.slice A n c]] (.bool true) w)) (g : decide ((8 : Int) < (n : Int)) = false) (hn : n ≤ 1000000) (hA : Lst w A n st)
    (HF : Hid (∀ i, i < n → CV 49 #[.slice (st i).A (st i).n (st i).c, .func (.func 50) #[] #[]] (.bool (stNP (st i))) w)) :
    Calls Tryz.prog 17 #[.agg #[.slice A n c]] w fun e w' => e = .returned (.tuple #[.bool (!(anyB (fun i => stNP (st i)) n)), .int .i64 0]) ∧ Below w.heap.size w w' := by
  have HA := Lib.hid hA
  clear hA
  go_enter Tryz.func17, Tryz.ntmps17
  go_upto_region 1 with fail
  generalize hX : w.alloc _ = X
  have HX : Hid (Below w.heap.size w X) := by rw [← hX]; exact below_alloc _ _
  have MX : Hid (MBx X w.heap.size A n c) := by rw [← hX]; exact MBx.new _ _ _ _ _
  clear hX
  obtain ⟨x0, -⟩ := MX.out
  go_wp2_with fail
  (with_reducible refine (HV0.out.run HX.out).mono ?_)
  rintro e w1 ⟨rfl, hB1⟩
  have HX1 := Lib.hid (HX.out.trans (hB1.mono HX.out.size))
  have MX1 := Lib.hid (MX.out.keep hB1)
  clear x0 hB1 MX HX
  obtain ⟨x0, -⟩ := MX1.out
  go_wp2_with fail
  clear x0 g
  go_loopw [16] (fun i wr => ∃ k : Nat, Hid (k ≤ n) ∧ i = .int .i64 (k : Int) ∧ Hid (∀ j, j < k → stNP (st j) = false) ∧ Hid (Below w.heap.size w wr)) (fun i _ => n - (intOf i).toNat)
  case atStart => exact ⟨0, Nat.zero_le _, rfl, Lib.hid (fun i hi => absurd hi (by omega)), HX1⟩
  case round =>
    clear HX1 MX1
    obtain ⟨k, hk, rfl, hv, hB⟩ := hrel
    by_cases hlt : k < n
    · obtain ⟨b, off, rfl, hb, hcells⟩ := (HA.out.keep hB.out).1 (by omega)
      obtain ⟨hc0, hc1, hc2⟩ := hcells k hlt
      dsimp only at hc0 hc1 hc2
      have hlt' : (k : Int) < (n : Int) := by omega
      have HFk := Lib.hid (HF.out k hlt)
      clear hcells
      generalize hpv : stNP (st k) = pv at HFk
      have HP := Lib.hid hpv
      clear hpv
      generalize (st k).ow = x0 at hc0
      generalize (st k).mrk = x1 at hc1
      generalize (st k).A = x2 at hc2 HFk
      generalize (st k).n = x3 at hc2 HFk
      generalize (st k).c = x4 at hc2 HFk
      go_upto_region 8 with fail
      generalize hY : wr.alloc _ = Y
      have HY : Hid (Below w.heap.size w Y) := by subst hY; exact hB.out.alloc hB.out.size _
      have j2 : Y.cell? ⟨wr.heap.size, 2, none⟩ = some (.slice x2 x3 x4) := by
        subst hY
        simp [go_sem]
      clear hY hc0 hc1 hc2 hb hB
      go_wp2_with fail
      (with_reducible refine (HFk.out.run HY.out).mono ?_)
      rintro e w2 ⟨rfl, hB2⟩
      have HY2 := Lib.hid (HY.out.trans (hB2.mono HY.out.size))
      clear j2 hB2 HY HFk
      cases pv with
      | true =>
        have HE : Hid (anyB (fun i => stNP (st i)) n = true) := anyB_true hlt HP.out
        go_wp2_with fail
        go_ret2
        exact ⟨by rw [HE.out]; rfl, HY2.out⟩
      | false =>
        have HV : Hid (∀ i, i < k + 1 → stNP (st i) = false) := fun i hi => by
          by_cases e : i = k
          · rw [e]; exact HP.out
          · exact hv.out i (by omega)
        clear hv HP
        go_wp2_with fail
        exact ⟨⟨k + 1, Lib.hid (by omega), by rw [show ((k + 1 : Nat) : Int) = (k : Int) + 1 from by omega], HV, HY2⟩, by simp [intOf]; omega⟩
    · have hke : k = n := by have := hk.out; omega
      have HE : Hid (anyB (fun i => stNP (st i)) n = false) := anyB_false (fun i hi => hv.out i (by omega))
      have hlt' : ¬ (k : Int) < (n : Int) := by omega
      clear hke hv
      go_wp2_with fail
      go_ret2
      exact ⟨by rw [HE.out]; rfl, hB.out⟩

theorem plain_any (A : Option Addr) (n c : Nat) (st : Nat → StV) (w : World) (HV0 : Hid (CV 20 #[.agg #[.slice A n c]] (.bool true) w)) (hA : Lst w A n st) (H : moB n st = true) :
    Calls Tryz.prog 17 #[.agg #[.slice A n c]] w fun e w' => e = .returned (.tuple #[.bool (plainB n st), .int .i64 0]) ∧ Below w.heap.size w w' := by
  have hn := (moB_n H).2
  unfold plainB
  cases g : decide ((8 : Int) < (n : Int)) with
  | true => exact plain_long A n c w HV0 g
  | false =>
  rw [show (!false && !(anyB (fun i => stNP (st i)) n)) = !(anyB (fun i => stNP (st i)) n) from rfl]
  refine plain_ok A n c st w HV0 g (by omega) hA (Lib.hid fun i hi wx hx => ?_)
  have hs := (stB_n (moB_st H hi)).2.1
  refine idxC_has _ _ _ _ wx (by omega) (Lib.hid fun wy hy => ?_)
  have hL := ((hA.keep hx).keep hy).2 i hi
  refine idxC_any _ _ _ (fun j => ((st i).ch j).t) (fun j => ((st i).ch j).l) (fun j => ((st i).ch j).A) (fun j => ((st i).ch j).n) (fun j => ((st i).ch j).c) (fun j => chNP ((st i).ch j)) wy (by omega) hL.1 (Lib.hid fun j hj wz hz => ?_)
  exact np_any ((st i).ch j) wz (by have := (bsB_n (moB_br H hi hj)).2; omega) ((hL.2 j hj).keep hz) (fun q hq => moB_low H hi hj hq)

set_option maxRecDepth 100000 in
set_option maxHeartbeats 8000000 in
theorem easy_any (A : Option Addr) (n c : Nat) (st : Nat → StV) (w : World) (hA : Lst w A n st) (H : moB n st = true) :
    Calls Tryz.prog 46 #[.agg #[.slice A n c]] w fun e w' => e = .returned (.bool (plainB n st)) ∧ Below w.heap.size w w' := by
  have HA := Lib.hid hA
  have HM := Lib.hid H
  have hn := (moB_n H).2
  clear hA H
  go_enter Tryz.func46, Tryz.ntmps46
  go_upto_region 1 with fail
  generalize hX : w.alloc _ = X
  have HX : Hid (Below w.heap.size w X) := by rw [← hX]; exact below_alloc _ _
  have MX : Hid (MBx X w.heap.size A n c) := by rw [← hX]; exact MBx.new _ _ _ _ _
  clear hX
  obtain ⟨x0, -⟩ := MX.out
  go_wp2_with fail
  clear x0
  go_loopw [12] (fun i wr => ∃ k : Nat, Hid (k ≤ n) ∧ i = .int .i64 (k : Int) ∧ Hid (∀ j, j < k → stNP (st j) = false) ∧ Hid (MBx wr w.heap.size A n c) ∧ Hid (Below w.heap.size w wr)) (fun i _ => n - (intOf i).toNat)
  case atStart => exact ⟨0, Nat.zero_le _, rfl, Lib.hid (fun i hi => absurd hi (by omega)), MX, HX⟩
  case round =>
    clear MX HX
    obtain ⟨k, hk, rfl, hv, hM, hB⟩ := hrel
    by_cases hlt : k < n
    · obtain ⟨b, off, hAe, hb, hcells⟩ := (HA.out.keep hB.out).1 (by omega)
      obtain ⟨hc0, hc1, hc2⟩ := hcells k hlt
      dsimp only at hc0 hc1 hc2
      have hlt' : (k : Int) < (n : Int) := by omega
      have hmk := (stB_n (moB_st HM.out hlt)).2.1
      clear hcells
      generalize hS : st k = S at *
      have HS := Lib.hid hS
      clear hS
      obtain ⟨ow, mrk, D, m, d, ch⟩ := S
      simp only at hc0 hc1 hc2 hmk
      subst hAe
      have HY := Lib.hid (hB.out.alloc hB.out.size (.cells #[.int .i64 ow, .int .i64 mrk, .slice D m d] 53))
      have MY := Lib.hid (hM.out.keep (below_alloc wr (.cells #[.int .i64 ow, .int .i64 mrk, .slice D m d] 53)))
      go_wp2_with fail
      clear hc0 hc1 hc2 hb hB hM
      go_loopw [19] (fun i w2 => ∃ j : Nat, Hid (j ≤ m) ∧ i = .int .i64 (j : Int) ∧ Hid (∀ i, i < j → chNP (ch i) = false) ∧ Hid (MBx w2 w.heap.size (some ⟨b, off, none⟩) n c) ∧ Hid (Below w.heap.size w w2)) (fun i _ => m - (intOf i).toNat)
      case atStart => exact ⟨0, Nat.zero_le _, rfl, Lib.hid (fun i hi => absurd hi (by omega)), MY, HY⟩
      case round =>
        clear HY MY
        obtain ⟨j, hj, rfl, hv2, hM2, hB2⟩ := hrel
        by_cases hlt2 : j < m
        · have HL2 : Lch wr D m ch := by
            have := (HA.out.keep hB2.out).2 k hlt
            rw [HS.out] at this
            exact this
          obtain ⟨b2, off2, hDe, hb2, hcells2⟩ := HL2.1 (by omega)
          obtain ⟨hd0, hd1, hd2⟩ := hcells2 j hlt2
          dsimp only at hd0 hd1 hd2
          have hlt2' : (j : Int) < (m : Int) := by omega
          have hBS : bsB n (ch j).n (ch j).tw (ch j).ct (ch j).cl = true := by
            have := moB_br HM.out hlt (j := j) (by rw [HS.out]; exact hlt2)
            rw [HS.out] at this
            exact this
          have hq8 := (bsB_n hBS).2
          have HLow : Hid (∀ q, q < (ch j).n → 1 ≤ (ch j).cl q ∧ (ch j).cl q ≤ 1152921504606846976) := fun q hq => vld_low (brB_open (bsB_br hBS hq)).2.2.1
          clear hcells2 HL2 hBS
          generalize hC : ch j = C at *
          have HCj := Lib.hid hC
          clear hC
          obtain ⟨t, l, E, r, e5, tw, ct, cl⟩ := C
          simp only at hd0 hd1 hd2 hq8 HLow
          subst hDe
          cases t1 : (l != 1) with
          | true =>
            have HE : Hid (plainB n st = false) := Lib.hid (by unfold plainB; rw [anyB_true hlt (show stNP (st k) = true by rw [HS.out]; exact anyB_true hlt2 (by show chNP (ch j) = true; rw [HCj.out]; unfold chNP; simp only [t1]; simp))]; simp)
            go_wp2_with fail
            go_ret
            exact ⟨by rw [HE.out]; rfl, hB2.out.alloc hB2.out.size _⟩
          | false =>
          cases t2 : decide ((100 : Int) < t) with
          | true =>
            have HE : Hid (plainB n st = false) := Lib.hid (by unfold plainB; rw [anyB_true hlt (show stNP (st k) = true by rw [HS.out]; exact anyB_true hlt2 (by show chNP (ch j) = true; rw [HCj.out]; unfold chNP; simp only [t2]; simp))]; simp)
            go_wp2_with fail
            go_ret
            exact ⟨by rw [HE.out]; rfl, hB2.out.alloc hB2.out.size _⟩
          | false =>
          cases t3 : decide (t < -100) with
          | true =>
            have HE : Hid (plainB n st = false) := Lib.hid (by unfold plainB; rw [anyB_true hlt (show stNP (st k) = true by rw [HS.out]; exact anyB_true hlt2 (by show chNP (ch j) = true; rw [HCj.out]; unfold chNP; simp only [t3]; simp))]; simp)
            go_wp2_with fail
            go_ret
            exact ⟨by rw [HE.out]; rfl, hB2.out.alloc hB2.out.size _⟩
          | false =>
          have HCN : Hid (chNP (ch j) = anyB (brNP ⟨t, l, E, r, e5, tw, ct, cl⟩) r) := Lib.hid (by rw [HCj.out]; unfold chNP; simp only [t1, t2, t3]; rfl)
          have HY := Lib.hid (hB2.out.alloc hB2.out.size (.cells #[.int .i64 t, .int .i64 l, .slice E r e5] 65))
          have MY := Lib.hid (hM2.out.keep (below_alloc wr (.cells #[.int .i64 t, .int .i64 l, .slice E r e5] 65)))
          go_wp2_with fail
          clear t1 t2 t3 hd0 hd1 hd2 hb2 hB2 hM2
          go_loopw [42] (fun i w2 => ∃ q : Nat, Hid (q ≤ r) ∧ i = .int .i64 (q : Int) ∧ Hid (∀ i, i < q → brNP ⟨t, l, E, r, e5, tw, ct, cl⟩ i = false) ∧ Hid (MBx w2 w.heap.size (some ⟨b, off, none⟩) n c) ∧ Hid (Below w.heap.size w w2)) (fun i _ => r - (intOf i).toNat)
          case atStart => exact ⟨0, Nat.zero_le _, rfl, Lib.hid (fun i hi => absurd hi (by omega)), MY, HY⟩
          case round =>
            clear HY MY
            obtain ⟨q, hq, rfl, hv3, hM3, hB3⟩ := hrel
            by_cases hlt3 : q < r
            · have HL3 : Lbr wr E r tw ct cl := by
                have := ((HA.out.keep hB3.out).2 k hlt)
                rw [HS.out] at this
                have h2 : Lbr wr (ch j).A (ch j).n (ch j).tw (ch j).ct (ch j).cl := this.2 j hlt2
                rw [HCj.out] at h2
                exact h2
              obtain ⟨b3, off3, rfl, hb3, hcells3⟩ := HL3 (by omega)
              obtain ⟨he0, he1, he2⟩ := hcells3 q hlt3
              dsimp only at he0 he1 he2
              have hlt3' : (q : Int) < (r : Int) := by omega
              obtain ⟨lo, hi⟩ := HLow.out q hlt3
              have HBN : Hid (brNP ⟨t, l, some ⟨b3, off3, none⟩, r, e5, tw, ct, cl⟩ q = ((12 : Int) % cl q != 0)) := rfl
              clear hcells3 HL3
              generalize tw q = x0 at he0
              generalize ct q = x1 at he1
              generalize cl q = x2 at he2 HBN lo hi
              have hx2 : x2 ≠ 0 := by omega
              cases t4 : ((12 : Int) % x2 != 0) with
              | true =>
                have HE : Hid (plainB n st = false) := Lib.hid (by unfold plainB; rw [anyB_true hlt (show stNP (st k) = true by rw [HS.out]; exact anyB_true hlt2 (by show chNP (ch j) = true; rw [HCN.out]; exact anyB_true hlt3 (by rw [HBN.out]; exact t4)))]; simp)
                go_wp2_with fail
                go_ret
                exact ⟨by rw [HE.out]; rfl, hB3.out.alloc hB3.out.size _⟩
              | false =>
                have HV3 : Hid (∀ i, i < q + 1 → brNP ⟨t, l, some ⟨b3, off3, none⟩, r, e5, tw, ct, cl⟩ i = false) := fun i hi => by
                  by_cases e : i = q
                  · rw [e, HBN.out]; exact t4
                  · exact hv3.out i (by omega)
                clear hv3 HBN
                go_wp2_with fail
                exact ⟨⟨q + 1, Lib.hid (by omega), by rw [show ((q + 1 : Nat) : Int) = (q : Int) + 1 from by omega], HV3, Lib.hid (hM3.out.keep (below_alloc _ _)), Lib.hid (hB3.out.alloc hB3.out.size _)⟩, by simp [intOf]; omega⟩
            · have hqe : q = r := by have := hq.out; omega
              have hlt3' : ¬ (q : Int) < (r : Int) := by omega
              have HV2 : Hid (∀ i, i < j + 1 → chNP (ch i) = false) := fun i hi => by
                by_cases e : i = j
                · rw [e, HCN.out]; exact anyB_false (fun i hi => hv3.out i (by omega))
                · exact hv2.out i (by omega)
              clear hqe hv3 hv2
              go_wp2_with fail
              exact ⟨⟨j + 1, Lib.hid (by omega), by rw [show ((j + 1 : Nat) : Int) = (j : Int) + 1 from by omega], HV2, hM3, hB3⟩, by simp [intOf]; omega⟩
        · have hje : j = m := by have := hj.out; omega
          have hlt2' : ¬ (j : Int) < (m : Int) := by omega
          have HVV : Hid (∀ i, i < k + 1 → stNP (st i) = false) := fun i hi => by
            by_cases e : i = k
            · rw [e, HS.out]; show anyB (fun j => chNP (ch j)) m = false; exact anyB_false (fun i hi => hv2.out i (by omega))
            · exact hv.out i (by omega)
          clear hje hv2 hv
          go_wp2_with fail
          exact ⟨⟨k + 1, Lib.hid (by omega), by rw [show ((k + 1 : Nat) : Int) = (k : Int) + 1 from by omega], HVV, hM2, hB2⟩, by simp [intOf]; omega⟩
    · have hke : k = n := by have := hk.out; omega
      have HE : Hid (plainB n st = decide ((n : Int) ≤ 8)) := Lib.hid (by
        unfold plainB
        rw [anyB_false (fun i hi => hv.out i (by omega)), Bool.eq_iff_iff]
        simp)
      have hlt' : ¬ (k : Int) < (n : Int) := by omega
      obtain ⟨m0, -⟩ := hM.out
      clear hke hv
      go_wp2_with fail
      go_ret
      exact ⟨by rw [HE.out]; rfl, hB.out⟩

end Go.Proofs.YtabaknkjcoibpaaGreatDoor
