/- The states of a model, and models, by the program. -/
import Derived.Test.YtmfnpipmbpnfbaaGreatDoorF29

set_option maxRecDepth 100000
set_option maxHeartbeats 40000000
namespace Go.Proofs.YtmfnpipmbpnfbaaGreatDoor
open Go.RowKit
theorem isState_w1 (s : StV) (ns : Nat) (w : World) (_hn : s.n ≤ 1000000) (t1 : decide (s.ow < 0) = true) :
    Calls Tryz.prog 53 #[.agg #[.int .i64 s.ow, .int .i64 s.mrk, .slice s.A s.n s.c], .int .i64 (ns : Int)] w fun e w' => e = .returned (.bool false) ∧ Below w.heap.size w w' := by
  obtain ⟨ow, mrk, A, n, c, ch⟩ := s
  simp only at *
  go_enter Tryz.func53, Tryz.ntmps53
  go_wp2_with fail
  go_ret
  exact ⟨rfl, below_alloc _ _⟩
theorem isState_w2 (s : StV) (ns : Nat) (w : World) (_hn : s.n ≤ 1000000) (t1 : decide (s.ow < 0) = false) (t2 : decide ((1 : Int) < s.ow) = true) :
    Calls Tryz.prog 53 #[.agg #[.int .i64 s.ow, .int .i64 s.mrk, .slice s.A s.n s.c], .int .i64 (ns : Int)] w fun e w' => e = .returned (.bool false) ∧ Below w.heap.size w w' := by
  obtain ⟨ow, mrk, A, n, c, ch⟩ := s
  simp only at *
  go_enter Tryz.func53, Tryz.ntmps53
  go_wp2_with fail
  go_ret
  exact ⟨rfl, below_alloc _ _⟩
theorem isState_w3 (s : StV) (ns : Nat) (w : World) (_hn : s.n ≤ 1000000) (t1 : decide (s.ow < 0) = false) (t2 : decide ((1 : Int) < s.ow) = false) (t3 : decide (s.mrk < 0) = true) :
    Calls Tryz.prog 53 #[.agg #[.int .i64 s.ow, .int .i64 s.mrk, .slice s.A s.n s.c], .int .i64 (ns : Int)] w fun e w' => e = .returned (.bool false) ∧ Below w.heap.size w w' := by
  obtain ⟨ow, mrk, A, n, c, ch⟩ := s
  simp only at *
  go_enter Tryz.func53, Tryz.ntmps53
  go_wp2_with fail
  go_ret
  exact ⟨rfl, below_alloc _ _⟩
theorem isState_w4 (s : StV) (ns : Nat) (w : World) (_hn : s.n ≤ 1000000) (t1 : decide (s.ow < 0) = false) (t2 : decide ((1 : Int) < s.ow) = false) (t3 : decide (s.mrk < 0) = false) (t4 : decide ((63 : Int) < s.mrk) = true) :
    Calls Tryz.prog 53 #[.agg #[.int .i64 s.ow, .int .i64 s.mrk, .slice s.A s.n s.c], .int .i64 (ns : Int)] w fun e w' => e = .returned (.bool false) ∧ Below w.heap.size w w' := by
  obtain ⟨ow, mrk, A, n, c, ch⟩ := s
  simp only at *
  go_enter Tryz.func53, Tryz.ntmps53
  go_wp2_with fail
  go_ret
  exact ⟨rfl, below_alloc _ _⟩
theorem isState_w5 (s : StV) (ns : Nat) (w : World) (_hn : s.n ≤ 1000000) (t1 : decide (s.ow < 0) = false) (t2 : decide ((1 : Int) < s.ow) = false) (t3 : decide (s.mrk < 0) = false) (t4 : decide ((63 : Int) < s.mrk) = false) (t5 : decide ((s.n : Int) < 1) = true) :
    Calls Tryz.prog 53 #[.agg #[.int .i64 s.ow, .int .i64 s.mrk, .slice s.A s.n s.c], .int .i64 (ns : Int)] w fun e w' => e = .returned (.bool false) ∧ Below w.heap.size w w' := by
  obtain ⟨ow, mrk, A, n, c, ch⟩ := s
  simp only at *
  go_enter Tryz.func53, Tryz.ntmps53
  go_wp2_with fail
  go_ret
  exact ⟨rfl, below_alloc _ _⟩
theorem isState_w6 (s : StV) (ns : Nat) (w : World) (_hn : s.n ≤ 1000000) (t1 : decide (s.ow < 0) = false) (t2 : decide ((1 : Int) < s.ow) = false) (t3 : decide (s.mrk < 0) = false) (t4 : decide ((63 : Int) < s.mrk) = false) (t5 : decide ((s.n : Int) < 1) = false) (t6 : decide ((8 : Int) < (s.n : Int)) = true) :
    Calls Tryz.prog 53 #[.agg #[.int .i64 s.ow, .int .i64 s.mrk, .slice s.A s.n s.c], .int .i64 (ns : Int)] w fun e w' => e = .returned (.bool false) ∧ Below w.heap.size w w' := by
  obtain ⟨ow, mrk, A, n, c, ch⟩ := s
  simp only at *
  go_enter Tryz.func53, Tryz.ntmps53
  go_wp2_with fail
  go_ret
  exact ⟨rfl, below_alloc _ _⟩
theorem isState_ok (s : StV) (ns : Nat) (w : World) (_hn : s.n ≤ 1000000) (t1 : decide (s.ow < 0) = false) (t2 : decide ((1 : Int) < s.ow) = false) (t3 : decide (s.mrk < 0) = false) (t4 : decide ((63 : Int) < s.mrk) = false) (t5 : decide ((s.n : Int) < 1) = false) (t6 : decide ((8 : Int) < (s.n : Int)) = false) (hA : Lch w s.A s.n s.ch)
    (HB : Hid (∀ j, j < s.n → CV 94 #[.slice (s.ch j).A (s.ch j).n (s.ch j).c, .int .i64 (ns : Int)] (.bool (bsB ns (s.ch j).n (s.ch j).tw (s.ch j).ct (s.ch j).cl)) w)) :
    Calls Tryz.prog 53 #[.agg #[.int .i64 s.ow, .int .i64 s.mrk, .slice s.A s.n s.c], .int .i64 (ns : Int)] w fun e w' => e = .returned (.bool (allB (fun j => chB ns (s.ch j)) s.n)) ∧ Below w.heap.size w w' := by
  obtain ⟨ow, mrk, A, n, c, ch⟩ := s
  simp only at *
  have HA := Lib.hid hA
  clear hA
  go_enter Tryz.func53, Tryz.ntmps53
  go_upto_region 3 with fail
  generalize hX : w.alloc _ = X
  have HX : Hid (Below w.heap.size w X) := by rw [← hX]; exact below_alloc _ _
  obtain ⟨x0, x1, x2⟩ : X.cell? ⟨w.heap.size, 0, none⟩ = some (.int .i64 ow) ∧ X.cell? ⟨w.heap.size, 1, none⟩ = some (.int .i64 mrk) ∧ X.cell? ⟨w.heap.size, 2, none⟩ = some (.slice A n c) := by
    subst hX
    simp [go_sem]
  clear hX
  go_wp2_with fail
  clear x0 x1 x2
  go_loopw [40] (fun i wr => ∃ k : Nat, Hid (k ≤ n) ∧ i = .int .i64 (k : Int) ∧ Hid (∀ j, j < k → chB ns (ch j) = true) ∧ Hid (Below w.heap.size w wr)) (fun i _ => n - (intOf i).toNat)
  case atStart => exact ⟨0, Nat.zero_le _, rfl, Lib.hid (fun i hi => absurd hi (by omega)), HX⟩
  case round =>
    obtain ⟨k, hk, rfl, hv, hB⟩ := hrel
    by_cases hlt : k < n
    · obtain ⟨b, off, rfl, hb, hcells⟩ := (HA.out.keep hB.out).1 (by omega)
      obtain ⟨hc0, hc1, hc2⟩ := hcells k hlt
      dsimp only at hc0 hc1 hc2
      have hlt' : (k : Int) < (n : Int) := by omega
      have HBk := Lib.hid (HB.out k hlt)
      have HC : Hid (chB ns (ch k) = (vld (ch k).t (ch k).l && bsB ns (ch k).n (ch k).tw (ch k).ct (ch k).cl)) := rfl
      clear hcells
      generalize htk : (ch k).t = tk at hc0 HC
      generalize hlk : (ch k).l = lk at hc1 HC
      generalize hbv : bsB ns (ch k).n (ch k).tw (ch k).ct (ch k).cl = bv at HC HBk
      generalize hAk : (ch k).A = Ak at hc2 HBk
      generalize hnk : (ch k).n = nk at hc2 HBk
      generalize hck : (ch k).c = ck at hc2 HBk
      clear htk hlk hbv hAk hnk hck
      go_upto_region 6 with fail
      generalize hY : wr.alloc _ = Y
      have HY : Hid (Below w.heap.size w Y) := by subst hY; exact hB.out.alloc hB.out.size _
      obtain ⟨j0, j1, j2, j3⟩ : Y.cell? ⟨wr.heap.size, 0, none⟩ = some (.int .i64 tk) ∧ Y.cell? ⟨wr.heap.size, 1, none⟩ = some (.int .i64 lk) ∧ Y.cell? ⟨wr.heap.size, 2, none⟩ = some (.slice Ak nk ck) ∧ wr.heap.size < Y.heap.size := by
        subst hY
        simp [go_sem]
      clear hY hc0 hc1 hc2 hb
      go_wp2_with fail
      (with_reducible refine (valid_any tk lk _).mono ?_)
      rintro e w1 ⟨rfl, hB1⟩
      have HB1 := Lib.hid (HY.out.trans (hB1.mono HY.out.size))
      have j2' := (hB1.cell (p := ⟨wr.heap.size, 2, none⟩) j3).trans j2
      clear j0 j1 j2 j3 hB1 HY
      cases hv1 : vld tk lk with
      | false =>
        have HE : Hid (allB (fun j => chB ns (ch j)) n = false) := allB_false hlt (by rw [HC.out, hv1]; rfl)
        go_wp2_with fail
        go_ret
        exact ⟨by rw [HE.out]; rfl, HB1.out⟩
      | true =>
        go_wp2_with fail
        (with_reducible refine (HBk.out.run HB1.out).mono ?_)
        rintro e w2 ⟨rfl, hB2⟩
        have HB2 := Lib.hid (HB1.out.trans (hB2.mono HB1.out.size))
        clear hB2 j2' HBk
        cases bv with
        | false =>
          have HE : Hid (allB (fun j => chB ns (ch j)) n = false) := allB_false hlt (by rw [HC.out]; simp)
          go_wp2_with fail
          go_ret
          exact ⟨by rw [HE.out]; rfl, HB2.out⟩
        | true =>
          have HV : Hid (∀ i, i < k + 1 → chB ns (ch i) = true) := fun i hi => by
            by_cases e : i = k
            · rw [e, HC.out, hv1]; rfl
            · exact hv.out i (by omega)
          clear hv hv1 HC
          go_wp2_with fail
          go_roundw
          case rel => exact ⟨k + 1, Lib.hid (by omega), by rw [show ((k + 1 : Nat) : Int) = (k : Int) + 1 from by omega], HV, HB2⟩
          case measure => simp [intOf]; omega
    · have hke : k = n := by have := hk.out; omega
      have HE : Hid (allB (fun j => chB ns (ch j)) n = true) := allB_true (fun i hi => hv.out i (by omega))
      have hlt' : ¬ (k : Int) < (n : Int) := by omega
      clear hke hv
      go_wp2_with fail
      go_ret
      exact ⟨by rw [HE.out]; rfl, hB.out⟩
theorem isState_any (s : StV) (ns : Nat) (w : World) (hn : s.n ≤ 1000000) (hA : Lch w s.A s.n s.ch)
    (HB : Hid (∀ j, j < s.n → CV 94 #[.slice (s.ch j).A (s.ch j).n (s.ch j).c, .int .i64 (ns : Int)] (.bool (bsB ns (s.ch j).n (s.ch j).tw (s.ch j).ct (s.ch j).cl)) w)) :
    Calls Tryz.prog 53 #[.agg #[.int .i64 s.ow, .int .i64 s.mrk, .slice s.A s.n s.c], .int .i64 (ns : Int)] w fun e w' => e = .returned (.bool (stB ns s)) ∧ Below w.heap.size w w' := by
  cases t1 : decide (s.ow < 0) with
  | true => rw [show stB ns s = false by unfold stB; simp only [t1]; simp]; exact isState_w1 s ns w hn t1
  | false =>
  cases t2 : decide ((1 : Int) < s.ow) with
  | true => rw [show stB ns s = false by unfold stB; simp only [t1, t2]; simp]; exact isState_w2 s ns w hn t1 t2
  | false =>
  cases t3 : decide (s.mrk < 0) with
  | true => rw [show stB ns s = false by unfold stB; simp only [t1, t2, t3]; simp]; exact isState_w3 s ns w hn t1 t2 t3
  | false =>
  cases t4 : decide ((63 : Int) < s.mrk) with
  | true => rw [show stB ns s = false by unfold stB; simp only [t1, t2, t3, t4]; simp]; exact isState_w4 s ns w hn t1 t2 t3 t4
  | false =>
  cases t5 : decide ((s.n : Int) < 1) with
  | true => rw [show stB ns s = false by unfold stB; simp only [t1, t2, t3, t4, t5]; simp]; exact isState_w5 s ns w hn t1 t2 t3 t4 t5
  | false =>
  cases t6 : decide ((8 : Int) < (s.n : Int)) with
  | true => rw [show stB ns s = false by unfold stB; simp only [t1, t2, t3, t4, t5, t6]; simp]; exact isState_w6 s ns w hn t1 t2 t3 t4 t5 t6
  | false =>
  rw [show stB ns s = allB (fun j => chB ns (s.ch j)) s.n by unfold stB; rw [t1, t2, t3, t4, t5, t6]; rfl]
  exact isState_ok s ns w hn t1 t2 t3 t4 t5 t6 hA HB
theorem mvalid_w1 (A : Option Addr) (n c : Nat) (w : World) (t1 : decide ((n : Int) < 1) = true) :
    Calls Tryz.prog 20 #[.agg #[.slice A n c]] w fun e w' => e = .returned (.bool false) ∧ Below w.heap.size w w' := by
  go_enter Tryz.func20, Tryz.ntmps20
  go_wp2_with fail
  go_ret
  exact ⟨rfl, below_alloc _ _⟩
theorem mvalid_w2 (A : Option Addr) (n c : Nat) (w : World) (t1 : decide ((n : Int) < 1) = false) (t2 : decide ((40 : Int) < (n : Int)) = true) :
    Calls Tryz.prog 20 #[.agg #[.slice A n c]] w fun e w' => e = .returned (.bool false) ∧ Below w.heap.size w w' := by
  go_enter Tryz.func20, Tryz.ntmps20
  go_wp2_with fail
  go_ret
  exact ⟨rfl, below_alloc _ _⟩
theorem mvalid_ok (A : Option Addr) (n c : Nat) (st : Nat → StV) (w : World) (hn : n ≤ 1000000) (t1 : decide ((n : Int) < 1) = false) (t2 : decide ((40 : Int) < (n : Int)) = false) (hA : Lst w A n st)
    (HB : Hid (∀ i, i < n → CV 53 #[.agg #[.int .i64 (st i).ow, .int .i64 (st i).mrk, .slice (st i).A (st i).n (st i).c], .int .i64 (n : Int)] (.bool (stB n (st i))) w)) :
    Calls Tryz.prog 20 #[.agg #[.slice A n c]] w fun e w' => e = .returned (.bool (allB (fun i => stB n (st i)) n)) ∧ Below w.heap.size w w' := by
  have HA := Lib.hid hA
  clear hA
  go_enter Tryz.func20, Tryz.ntmps20
  go_upto_region 4 with fail
  generalize hX : w.alloc _ = X
  have HX : Hid (Below w.heap.size w X) := by rw [← hX]; exact below_alloc _ _
  have x0 : X.cell? ⟨w.heap.size, 0, none⟩ = some (.slice A n c) := by
    subst hX
    simp [go_sem]
  clear hX
  go_wp2_with fail
  clear x0
  go_loopw [18] (fun i wr => ∃ k : Nat, Hid (k ≤ n) ∧ i = .int .i64 (k : Int) ∧ Hid (∀ j, j < k → stB n (st j) = true) ∧ Hid (Below w.heap.size w wr)) (fun i _ => n - (intOf i).toNat)
  case atStart => exact ⟨0, Nat.zero_le _, rfl, Lib.hid (fun i hi => absurd hi (by omega)), HX⟩
  case round =>
    obtain ⟨k, hk, rfl, hv, hB⟩ := hrel
    by_cases hlt : k < n
    · obtain ⟨b, off, rfl, hb, hcells⟩ := (HA.out.keep hB.out).1 (by omega)
      obtain ⟨hc0, hc1, hc2⟩ := hcells k hlt
      dsimp only at hc0 hc1 hc2
      have hlt' : (k : Int) < (n : Int) := by omega
      have HBk := Lib.hid (HB.out k hlt)
      clear hcells
      generalize hbv : stB n (st k) = bv at HBk
      have HC := Lib.hid hbv
      clear hbv
      generalize htk : (st k).ow = tk at hc0 HBk
      generalize hlk : (st k).mrk = lk at hc1 HBk
      generalize hAk : (st k).A = Ak at hc2 HBk
      generalize hnk : (st k).n = nk at hc2 HBk
      generalize hck : (st k).c = ck at hc2 HBk
      clear htk hlk hAk hnk hck
      go_upto_region 7 with fail
      generalize hY : wr.alloc _ = Y
      have HY : Hid (Below w.heap.size w Y) := by subst hY; exact hB.out.alloc hB.out.size _
      obtain ⟨j0, j1, j2⟩ : Y.cell? ⟨wr.heap.size, 0, none⟩ = some (.int .i64 tk) ∧ Y.cell? ⟨wr.heap.size, 1, none⟩ = some (.int .i64 lk) ∧ Y.cell? ⟨wr.heap.size, 2, none⟩ = some (.slice Ak nk ck) := by
        subst hY
        simp [go_sem]
      clear hY hc0 hc1 hc2 hb
      go_wp2_with fail
      (with_reducible refine (HBk.out.run HY.out).mono ?_)
      rintro e w1 ⟨rfl, hB1⟩
      have HB1 := Lib.hid (HY.out.trans (hB1.mono HY.out.size))
      clear j0 j1 j2 hB1 HY HBk
      cases bv with
      | false =>
        have HE : Hid (allB (fun i => stB n (st i)) n = false) := allB_false hlt HC.out
        go_wp2_with fail
        go_ret
        exact ⟨by rw [HE.out]; rfl, HB1.out⟩
      | true =>
        have HV : Hid (∀ i, i < k + 1 → stB n (st i) = true) := fun i hi => by
          by_cases e : i = k
          · rw [e]; exact HC.out
          · exact hv.out i (by omega)
        clear hv HC
        go_wp2_with fail
        go_roundw
        case rel => exact ⟨k + 1, Lib.hid (by omega), by rw [show ((k + 1 : Nat) : Int) = (k : Int) + 1 from by omega], HV, HB1⟩
        case measure => simp [intOf]; omega
    · have hke : k = n := by have := hk.out; omega
      have HE : Hid (allB (fun i => stB n (st i)) n = true) := allB_true (fun i hi => hv.out i (by omega))
      have hlt' : ¬ (k : Int) < (n : Int) := by omega
      clear hke hv
      go_wp2_with fail
      go_ret
      exact ⟨by rw [HE.out]; rfl, hB.out⟩
theorem mvalid_any (A : Option Addr) (n c : Nat) (st : Nat → StV) (w : World) (hn : n ≤ 1000000) (hA : Lst w A n st)
    (HB : Hid (∀ i, i < n → CV 53 #[.agg #[.int .i64 (st i).ow, .int .i64 (st i).mrk, .slice (st i).A (st i).n (st i).c], .int .i64 (n : Int)] (.bool (stB n (st i))) w)) :
    Calls Tryz.prog 20 #[.agg #[.slice A n c]] w fun e w' => e = .returned (.bool (moB n st)) ∧ Below w.heap.size w w' := by
  cases t1 : decide ((n : Int) < 1) with
  | true => rw [show moB n st = false by unfold moB; rw [t1]; rfl]; exact mvalid_w1 A n c w t1
  | false =>
  cases t2 : decide ((40 : Int) < (n : Int)) with
  | true => rw [show moB n st = false by unfold moB; rw [t2]; simp]; exact mvalid_w2 A n c w t1 t2
  | false =>
  rw [show moB n st = allB (fun i => stB n (st i)) n by unfold moB; rw [t1, t2]; rfl]
  exact mvalid_ok A n c st w hn t1 t2 hA HB
def MBx (w : World) (g : Nat) (A : Option Addr) (n c : Nat) : Prop := w.cell? ⟨g, 0, none⟩ = some (.slice A n c) ∧ g < w.heap.size
theorem MBx.keep {w w' : World} {g : Nat} {A : Option Addr} {n c : Nat} (h : MBx w g A n c) (hb : Below w.heap.size w w') : MBx w' g A n c :=
  ⟨(hb.cell (p := ⟨g, 0, none⟩) h.2).trans h.1, Nat.lt_of_lt_of_le h.2 hb.size⟩
theorem MBx.new (w : World) (A : Option Addr) (n c T : Nat) : MBx (w.alloc (.cells #[.slice A n c] T)) w.heap.size A n c := by simp [MBx, go_sem]
theorem rmvalid_w1 (A : Option Addr) (n c : Nat) (w : World) (t1 : decide ((n : Int) < 1) = true) :
    Calls Tryz.prog 21 #[.agg #[.slice A n c]] w fun e w' => e = .returned (.bool false) ∧ Below w.heap.size w w' := by
  go_enter Tryz.func21, Tryz.ntmps21
  go_wp2_with fail
  go_ret
  exact ⟨rfl, below_alloc _ _⟩
theorem rmvalid_w2 (A : Option Addr) (n c : Nat) (w : World) (t1 : decide ((n : Int) < 1) = false) (t2 : decide ((40 : Int) < (n : Int)) = true) :
    Calls Tryz.prog 21 #[.agg #[.slice A n c]] w fun e w' => e = .returned (.bool false) ∧ Below w.heap.size w w' := by
  go_enter Tryz.func21, Tryz.ntmps21
  go_wp2_with fail
  go_ret
  exact ⟨rfl, below_alloc _ _⟩
theorem rmvalid_ok (A : Option Addr) (n c : Nat) (st : Nat → StV) (w : World) (hn : n ≤ 1000000) (g1 : decide ((n : Int) < 1) = false) (g2 : decide ((40 : Int) < (n : Int)) = false) (hA : Lst w A n st) (hm : ∀ i, i < n → (st i).n ≤ 1000000)
    (HB : Hid (∀ i j, i < n → j < (st i).n → CV 54 #[.agg #[.int .i64 ((st i).ch j).t, .int .i64 ((st i).ch j).l, .slice ((st i).ch j).A ((st i).ch j).n ((st i).ch j).c], .int .i64 (n : Int)] (.bool (chB n ((st i).ch j))) w)) :
    Calls Tryz.prog 21 #[.agg #[.slice A n c]] w fun e w' => e = .returned (.bool (allB (fun i => stB n (st i)) n)) ∧ Below w.heap.size w w' := by
  have HA := Lib.hid hA
  have HM := Lib.hid hm
  clear hA hm
  go_enter Tryz.func21, Tryz.ntmps21
  go_upto_region 3 with fail
  generalize hX : w.alloc _ = X
  have HX : Hid (Below w.heap.size w X) := by rw [← hX]; exact below_alloc _ _
  have MX : Hid (MBx X w.heap.size A n c) := by rw [← hX]; exact MBx.new _ _ _ _ _
  clear hX g1 g2
  obtain ⟨x0, -⟩ := MX.out
  go_wp2_with fail
  clear x0
  go_loopw [20] (fun i wr => ∃ k : Nat, Hid (k ≤ n) ∧ i = .int .i64 (k : Int) ∧ Hid (∀ j, j < k → stB n (st j) = true) ∧ Hid (MBx wr w.heap.size A n c) ∧ Hid (Below w.heap.size w wr)) (fun i _ => n - (intOf i).toNat)
  case atStart => exact ⟨0, Nat.zero_le _, rfl, Lib.hid (fun i hi => absurd hi (by omega)), MX, HX⟩
  case round =>
    obtain ⟨k, hk, rfl, hv, hM, hB⟩ := hrel
    clear MX HX
    by_cases hlt : k < n
    · obtain ⟨b, off, hAe, hb, hcells⟩ := (HA.out.keep hB.out).1 (by omega)
      obtain ⟨hc0, hc1, hc2⟩ := hcells k hlt
      dsimp only at hc0 hc1 hc2
      have hlt' : (k : Int) < (n : Int) := by omega
      have HBk := Lib.hid (fun j => HB.out k j hlt)
      have HLk := Lib.hid ((HA.out.keep hB.out).2 k hlt)
      have hmk := HM.out k hlt
      have HAe := Lib.hid hAe
      clear hcells
      generalize hS : st k = S at *
      have HS := Lib.hid hS
      clear hS
      obtain ⟨ow, mrk, D, m, d, ch⟩ := S
      simp only at hc0 hc1 hc2 HLk HBk hmk
      subst hAe
      go_upto_region 6 with fail
      generalize hY : wr.alloc _ = Y
      have HY : Hid (Below w.heap.size w Y) := by subst hY; exact hB.out.alloc hB.out.size _
      have hYr : Below wr.heap.size wr Y := by subst hY; exact below_alloc _ _
      have MY := Lib.hid (hM.out.keep hYr)
      have LY := Lib.hid (HLk.out.keep hYr)
      obtain ⟨j0, j1, j2⟩ : Y.cell? ⟨wr.heap.size, 0, none⟩ = some (.int .i64 ow) ∧ Y.cell? ⟨wr.heap.size, 1, none⟩ = some (.int .i64 mrk) ∧ Y.cell? ⟨wr.heap.size, 2, none⟩ = some (.slice D m d) := by
        subst hY
        simp [go_sem]
      clear hY hYr hc0 hc1 hc2 hb HLk hM hB
      cases t1 : decide (ow < 0) with
      | true =>
        have HE : Hid (allB (fun i => stB n (st i)) n = false) := allB_false hlt (by rw [HS.out]; unfold stB; dsimp only; simp only [t1]; simp)
        go_wp2_with fail
        go_ret
        exact ⟨by rw [HE.out]; rfl, HY.out⟩
      | false =>
      cases t2 : decide ((1 : Int) < ow) with
      | true =>
        have HE : Hid (allB (fun i => stB n (st i)) n = false) := allB_false hlt (by rw [HS.out]; unfold stB; dsimp only; simp only [t1, t2]; simp)
        go_wp2_with fail
        go_ret
        exact ⟨by rw [HE.out]; rfl, HY.out⟩
      | false =>
      cases t3 : decide (mrk < 0) with
      | true =>
        have HE : Hid (allB (fun i => stB n (st i)) n = false) := allB_false hlt (by rw [HS.out]; unfold stB; dsimp only; simp only [t1, t2, t3]; simp)
        go_wp2_with fail
        go_ret
        exact ⟨by rw [HE.out]; rfl, HY.out⟩
      | false =>
      cases t4 : decide ((63 : Int) < mrk) with
      | true =>
        have HE : Hid (allB (fun i => stB n (st i)) n = false) := allB_false hlt (by rw [HS.out]; unfold stB; dsimp only; simp only [t1, t2, t3, t4]; simp)
        go_wp2_with fail
        go_ret
        exact ⟨by rw [HE.out]; rfl, HY.out⟩
      | false =>
      cases t5 : decide ((m : Int) < 1) with
      | true =>
        have HE : Hid (allB (fun i => stB n (st i)) n = false) := allB_false hlt (by rw [HS.out]; unfold stB; dsimp only; simp only [t1, t2, t3, t4, t5]; simp)
        go_wp2_with fail
        go_ret
        exact ⟨by rw [HE.out]; rfl, HY.out⟩
      | false =>
      cases t6 : decide ((8 : Int) < (m : Int)) with
      | true =>
        have HE : Hid (allB (fun i => stB n (st i)) n = false) := allB_false hlt (by rw [HS.out]; unfold stB; dsimp only; simp only [t1, t2, t3, t4, t5, t6]; simp)
        go_wp2_with fail
        go_ret
        exact ⟨by rw [HE.out]; rfl, HY.out⟩
      | false =>
      have HC6 : Hid (stB n (st k) = allB (fun j => chB n (ch j)) m) := Lib.hid (by rw [HS.out]; show stB n ⟨ow, mrk, D, m, d, ch⟩ = _; unfold stB; simp only [t1, t2, t3, t4, t5, t6]; rfl)
      go_wp2_with fail
      clear j0 j1 j2 t1 t2 t3 t4 t5 t6
      go_loopw [57] (fun i w2 => ∃ j : Nat, Hid (j ≤ m) ∧ i = .int .i64 (j : Int) ∧ Hid (∀ i, i < j → chB n (ch i) = true) ∧ Hid (MBx w2 w.heap.size (some ⟨b, off, none⟩) n c) ∧ Hid (Below w.heap.size w w2)) (fun i _ => m - (intOf i).toNat)
      case atStart => exact ⟨0, Nat.zero_le _, rfl, Lib.hid (fun i hi => absurd hi (by omega)), MY, HY⟩
      case round =>
        clear MY HY LY
        obtain ⟨j, hj, rfl, hv2, hM2, hB2⟩ := hrel
        by_cases hlt2 : j < m
        · have HL2 : Lch wr D m ch := by
            have := (HA.out.keep hB2.out).2 k hlt
            rw [HS.out] at this
            exact this
          obtain ⟨b2, off2, rfl, hb2, hcells2⟩ := HL2.1 (by omega)
          obtain ⟨hd0, hd1, hd2⟩ := hcells2 j hlt2
          dsimp only at hd0 hd1 hd2
          have hlt2' : (j : Int) < (m : Int) := by omega
          have HBj := Lib.hid (HBk.out j hlt2)
          clear hcells2 HL2
          generalize hcv : chB n (ch j) = cv at HBj
          have HCv := Lib.hid hcv
          clear hcv
          generalize hX0 : (ch j).t = tk at hd0 HBj
          generalize hX1 : (ch j).l = lk at hd1 HBj
          generalize hX2 : (ch j).A = Ak at hd2 HBj
          generalize hX3 : (ch j).n = nk at hd2 HBj
          generalize hX4 : (ch j).c = ck at hd2 HBj
          clear hX0 hX1 hX2 hX3 hX4
          have M2 := hM2.out
          go_upto_region 11 with fail
          generalize hY : wr.alloc _ = Y2
          have hY2 : Below wr.heap.size wr Y2 := by subst hY; exact below_alloc _ _
          have HY2 := Lib.hid (hB2.out.trans (hY2.mono hB2.out.size))
          have MY2 := Lib.hid (hM2.out.keep hY2)
          obtain ⟨j0, j1, j2⟩ : Y2.cell? ⟨wr.heap.size, 0, none⟩ = some (.int .i64 tk) ∧ Y2.cell? ⟨wr.heap.size, 1, none⟩ = some (.int .i64 lk) ∧ Y2.cell? ⟨wr.heap.size, 2, none⟩ = some (.slice Ak nk ck) := by
            subst hY
            simp [go_sem]
          clear hY hY2 hd0 hd1 hd2 hb2 hM2 hB2 M2
          obtain ⟨m0, -⟩ := MY2.out
          go_wp2_with fail
          (with_reducible refine (HBj.out.run HY2.out).mono ?_)
          rintro e w3 ⟨rfl, hB3⟩
          have HY3 := Lib.hid (HY2.out.trans (hB3.mono HY2.out.size))
          have MY3 := Lib.hid (MY2.out.keep hB3)
          clear j0 j1 j2 m0 hB3 HY2 MY2 HBj
          cases cv with
          | false =>
            have HE : Hid (allB (fun i => stB n (st i)) n = false) := allB_false hlt (by rw [HC6.out]; exact allB_false hlt2 HCv.out)
            go_wp2_with fail
            go_ret
            exact ⟨by rw [HE.out]; rfl, HY3.out⟩
          | true =>
            have HV2 : Hid (∀ i, i < j + 1 → chB n (ch i) = true) := fun i hi => by
              by_cases e : i = j
              · rw [e]; exact HCv.out
              · exact hv2.out i (by omega)
            clear hv2 HCv
            go_wp2_with fail
            exact ⟨⟨j + 1, Lib.hid (by omega), by rw [show ((j + 1 : Nat) : Int) = (j : Int) + 1 from by omega], HV2, MY3, HY3⟩, by simp [intOf]; omega⟩
        · have hje : j = m := by have := hj.out; omega
          have hlt2' : ¬ (j : Int) < (m : Int) := by omega
          have HVV : Hid (∀ i, i < k + 1 → stB n (st i) = true) := fun i hi => by
            by_cases e : i = k
            · rw [e, HC6.out]; exact allB_true (fun i hi => hv2.out i (by omega))
            · exact hv.out i (by omega)
          clear hje hv2 hv
          go_wp2_with fail
          exact ⟨⟨k + 1, Lib.hid (by omega), by rw [show ((k + 1 : Nat) : Int) = (k : Int) + 1 from by omega], HVV, hM2, hB2⟩, by simp [intOf]; omega⟩
    · have hke : k = n := by have := hk.out; omega
      have HE : Hid (allB (fun i => stB n (st i)) n = true) := allB_true (fun i hi => hv.out i (by omega))
      have hlt' : ¬ (k : Int) < (n : Int) := by omega
      clear hke hv
      go_wp2_with fail
      go_ret
      exact ⟨by rw [HE.out]; rfl, hB.out⟩
theorem rmvalid_any (A : Option Addr) (n c : Nat) (st : Nat → StV) (w : World) (hn : n ≤ 1000000) (hA : Lst w A n st) (hm : ∀ i, i < n → (st i).n ≤ 1000000)
    (HB : Hid (∀ i j, i < n → j < (st i).n → CV 54 #[.agg #[.int .i64 ((st i).ch j).t, .int .i64 ((st i).ch j).l, .slice ((st i).ch j).A ((st i).ch j).n ((st i).ch j).c], .int .i64 (n : Int)] (.bool (chB n ((st i).ch j))) w)) :
    Calls Tryz.prog 21 #[.agg #[.slice A n c]] w fun e w' => e = .returned (.bool (moB n st)) ∧ Below w.heap.size w w' := by
  cases t1 : decide ((n : Int) < 1) with
  | true => rw [show moB n st = false by unfold moB; rw [t1]; rfl]; exact rmvalid_w1 A n c w t1
  | false =>
  cases t2 : decide ((40 : Int) < (n : Int)) with
  | true => rw [show moB n st = false by unfold moB; rw [t2]; simp]; exact rmvalid_w2 A n c w t1 t2
  | false =>
  rw [show moB n st = allB (fun i => stB n (st i)) n by unfold moB; rw [t1, t2]; rfl]
  exact rmvalid_ok A n c st w hn t1 t2 hA hm HB
end Go.Proofs.YtmfnpipmbpnfbaaGreatDoor
