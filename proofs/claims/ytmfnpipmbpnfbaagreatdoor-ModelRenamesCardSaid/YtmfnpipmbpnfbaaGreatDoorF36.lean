/- Models that are small enough. -/
import Derived.Test.YtmfnpipmbpnfbaaGreatDoorF35
import Derived.Test.YtmfnpipmbpnfbaaGreatDoorF30

set_option maxRecDepth 100000
set_option maxHeartbeats 40000000
namespace Go.Proofs.YtmfnpipmbpnfbaaGreatDoor
open Go.RowKit
def fewC (s : StV) (j : Nat) : Bool := !(decide ((10 : Int) < ((s.ch j).n : Int)))
def fewS (st : Nat → StV) (i : Nat) : Bool := !(decide ((10 : Int) < ((st i).n : Int))) && allB (fewC (st i)) (st i).n
def fewB (n : Nat) (st : Nat → StV) : Bool := !(decide ((45 : Int) < (n : Int))) && allB (fewS st) n
theorem few_long (A : Option Addr) (n c : Nat) (w : World) (g1 : decide ((40 : Int) < (n : Int)) = true) (g2 : decide ((n : Int) ≤ 40) = false) (g3 : decide ((45 : Int) < (n : Int)) = true) :
    Calls Tryz.prog 43 #[.int .i64 40, .agg #[.slice A n c]] w fun e w' => e = .returned (.bool false) ∧ Below w.heap.size w w' := by
  go_enter Tryz.func43, Tryz.ntmps43
  go_wp2_with fail
  go_ret
  exact ⟨rfl, below_alloc _ _⟩
theorem few_a (A : Option Addr) (n c : Nat) (st : Nat → StV) (w : World) (hn : n ≤ 45) (g1 : decide ((40 : Int) < (n : Int)) = false) (g3 : decide ((45 : Int) < (n : Int)) = false) (hA : Lst w A n st) (hm : ∀ i, i < n → (st i).n ≤ 9223372036854775807) (hq : ∀ i j, i < n → j < (st i).n → ((st i).ch j).n ≤ 9223372036854775807) :
    Calls Tryz.prog 43 #[.int .i64 40, .agg #[.slice A n c]] w fun e w' => e = .returned (.bool (allB (fewS st) n)) ∧ Below w.heap.size w w' := by
  have HA := Lib.hid hA
  have HM := Lib.hid hm
  have HQ := Lib.hid hq
  clear hA hm hq
  go_enter Tryz.func43, Tryz.ntmps43
  go_upto_region 3 with fail
  generalize hX : w.alloc _ = X
  have HX : Hid (Below w.heap.size w X) := by rw [← hX]; exact below_alloc _ _
  have MX : Hid (MBx X w.heap.size A n c) := by rw [← hX]; exact MBx.new _ _ _ _ _
  clear hX g1 g3
  obtain ⟨x0, -⟩ := MX.out
  go_wp2_with fail
  clear x0
  go_loopw [29] (fun i wr => ∃ k : Nat, Hid (k ≤ n) ∧ i = .int .i64 (k : Int) ∧ Hid (∀ j, j < k → fewS st j = true) ∧ Hid (Below w.heap.size w wr)) (fun i _ => n - (intOf i).toNat)
  case atStart => exact ⟨0, Nat.zero_le _, rfl, Lib.hid (fun i hi => absurd hi (by omega)), HX⟩
  case round =>
    obtain ⟨k, hk, rfl, hv, hB⟩ := hrel
    clear MX HX
    by_cases hlt : k < n
    · obtain ⟨b, off, hAe, hb, hcells⟩ := (HA.out.keep hB.out).1 (by omega)
      obtain ⟨hc0, hc1, hc2⟩ := hcells k hlt
      dsimp only at hc0 hc1 hc2
      have hlt' : (k : Int) < (n : Int) := by omega
      have hmk := HM.out k hlt
      have HQk := Lib.hid (fun j => HQ.out k j hlt)
      clear hcells
      generalize hS : st k = S at *
      have HS := Lib.hid hS
      clear hS
      obtain ⟨ow, mrk, D, m, d, ch⟩ := S
      simp only at hc0 hc1 hc2 hmk HQk
      subst hAe
      have HFk : Hid (fewS st k = (!(decide ((10 : Int) < (m : Int))) && allB (fewC ⟨ow, mrk, D, m, d, ch⟩) m)) := Lib.hid (by unfold fewS; rw [HS.out])
      cases t1 : decide ((10 : Int) < (m : Int)) with
      | true =>
        have HE : Hid (allB (fewS st) n = false) := allB_false hlt (by rw [HFk.out, t1]; rfl)
        go_wp2_with fail
        go_ret
        exact ⟨by rw [HE.out]; rfl, hB.out.alloc hB.out.size _⟩
      | false =>
      have HY := Lib.hid (hB.out.alloc hB.out.size (.cells #[.int .i64 ow, .int .i64 mrk, .slice D m d] 53))
      have HF2 : Hid (fewS st k = allB (fewC ⟨ow, mrk, D, m, d, ch⟩) m) := Lib.hid (by rw [HFk.out, t1]; rfl)
      clear HFk
      go_wp2_with fail
      clear t1 hc0 hc1 hc2 hb
      go_loopw [40] (fun i w2 => ∃ j : Nat, Hid (j ≤ m) ∧ i = .int .i64 (j : Int) ∧ Hid (∀ i, i < j → fewC ⟨ow, mrk, D, m, d, ch⟩ i = true) ∧ Hid (Below w.heap.size w w2)) (fun i _ => m - (intOf i).toNat)
      case atStart => exact ⟨0, Nat.zero_le _, rfl, Lib.hid (fun i hi => absurd hi (by omega)), HY⟩
      case round =>
        clear HY hB
        obtain ⟨j, hj, rfl, hv2, hB2⟩ := hrel
        by_cases hlt2 : j < m
        · have HL2 : Lch wr D m ch := by
            have := (HA.out.keep hB2.out).2 k hlt
            rw [HS.out] at this
            exact this
          obtain ⟨b2, off2, rfl, hb2, hcells2⟩ := HL2.1 (by omega)
          obtain ⟨hd0, hd1, hd2⟩ := hcells2 j hlt2
          dsimp only at hd0 hd1 hd2
          have hlt2' : (j : Int) < (m : Int) := by omega
          have hqj := HQk.out j hlt2
          have HCv : Hid (fewC ⟨ow, mrk, some ⟨b2, off2, none⟩, m, d, ch⟩ j = !(decide ((10 : Int) < ((ch j).n : Int)))) := rfl
          clear hcells2 HL2
          generalize (ch j).t = tk at hd0
          generalize (ch j).l = lk at hd1
          generalize (ch j).A = Ak at hd2
          generalize (ch j).n = nk at hd2 HCv hqj
          generalize (ch j).c = ck at hd2
          cases t2 : decide ((10 : Int) < (nk : Int)) with
          | true =>
            have HE : Hid (allB (fewS st) n = false) := allB_false hlt (by rw [HF2.out]; exact allB_false hlt2 (by rw [HCv.out, t2]; rfl))
            go_wp2_with fail
            go_ret
            exact ⟨by rw [HE.out]; rfl, hB2.out.alloc hB2.out.size _⟩
          | false =>
            have HV2 : Hid (∀ i, i < j + 1 → fewC ⟨ow, mrk, some ⟨b2, off2, none⟩, m, d, ch⟩ i = true) := fun i hi => by
              by_cases e : i = j
              · rw [e, HCv.out, t2]; rfl
              · exact hv2.out i (by omega)
            clear hv2 HCv
            go_wp2_with fail
            exact ⟨⟨j + 1, Lib.hid (by omega), by rw [show ((j + 1 : Nat) : Int) = (j : Int) + 1 from by omega], HV2, Lib.hid (hB2.out.alloc hB2.out.size _)⟩, by simp [intOf]; omega⟩
        · have hje : j = m := by have := hj.out; omega
          have hlt2' : ¬ (j : Int) < (m : Int) := by omega
          have HVV : Hid (∀ i, i < k + 1 → fewS st i = true) := fun i hi => by
            by_cases e : i = k
            · rw [e, HF2.out]; exact allB_true (fun i hi => hv2.out i (by omega))
            · exact hv.out i (by omega)
          clear hje hv2 hv
          go_wp2_with fail
          exact ⟨⟨k + 1, Lib.hid (by omega), by rw [show ((k + 1 : Nat) : Int) = (k : Int) + 1 from by omega], HVV, hB2⟩, by simp [intOf]; omega⟩
    · have hke : k = n := by have := hk.out; omega
      have HE : Hid (allB (fewS st) n = true) := allB_true (fun i hi => hv.out i (by omega))
      have hlt' : ¬ (k : Int) < (n : Int) := by omega
      clear hke hv
      go_wp2_with fail
      go_ret
      exact ⟨by rw [HE.out]; rfl, hB.out⟩
theorem few_b (A : Option Addr) (n c : Nat) (st : Nat → StV) (w : World) (hn : n ≤ 45) (g1 : decide ((40 : Int) < (n : Int)) = true) (g2 : decide ((n : Int) ≤ 40) = false) (g3 : decide ((45 : Int) < (n : Int)) = false) (hA : Lst w A n st) (hm : ∀ i, i < n → (st i).n ≤ 9223372036854775807) (hq : ∀ i j, i < n → j < (st i).n → ((st i).ch j).n ≤ 9223372036854775807) :
    Calls Tryz.prog 43 #[.int .i64 40, .agg #[.slice A n c]] w fun e w' => e = .returned (.bool (allB (fewS st) n)) ∧ Below w.heap.size w w' := by
  have HA := Lib.hid hA
  have HM := Lib.hid hm
  have HQ := Lib.hid hq
  clear hA hm hq
  go_enter Tryz.func43, Tryz.ntmps43
  go_upto_region 3 with fail
  generalize hX : w.alloc _ = X
  have HX : Hid (Below w.heap.size w X) := by rw [← hX]; exact below_alloc _ _
  have MX : Hid (MBx X w.heap.size A n c) := by rw [← hX]; exact MBx.new _ _ _ _ _
  clear hX g1 g2 g3
  obtain ⟨x0, -⟩ := MX.out
  go_wp2_with fail
  clear x0
  go_loopw [29] (fun i wr => ∃ k : Nat, Hid (k ≤ n) ∧ i = .int .i64 (k : Int) ∧ Hid (∀ j, j < k → fewS st j = true) ∧ Hid (Below w.heap.size w wr)) (fun i _ => n - (intOf i).toNat)
  case atStart => exact ⟨0, Nat.zero_le _, rfl, Lib.hid (fun i hi => absurd hi (by omega)), HX⟩
  case round =>
    obtain ⟨k, hk, rfl, hv, hB⟩ := hrel
    clear MX HX
    by_cases hlt : k < n
    · obtain ⟨b, off, hAe, hb, hcells⟩ := (HA.out.keep hB.out).1 (by omega)
      obtain ⟨hc0, hc1, hc2⟩ := hcells k hlt
      dsimp only at hc0 hc1 hc2
      have hlt' : (k : Int) < (n : Int) := by omega
      have hmk := HM.out k hlt
      have HQk := Lib.hid (fun j => HQ.out k j hlt)
      clear hcells
      generalize hS : st k = S at *
      have HS := Lib.hid hS
      clear hS
      obtain ⟨ow, mrk, D, m, d, ch⟩ := S
      simp only at hc0 hc1 hc2 hmk HQk
      subst hAe
      have HFk : Hid (fewS st k = (!(decide ((10 : Int) < (m : Int))) && allB (fewC ⟨ow, mrk, D, m, d, ch⟩) m)) := Lib.hid (by unfold fewS; rw [HS.out])
      cases t1 : decide ((10 : Int) < (m : Int)) with
      | true =>
        have HE : Hid (allB (fewS st) n = false) := allB_false hlt (by rw [HFk.out, t1]; rfl)
        go_wp2_with fail
        go_ret
        exact ⟨by rw [HE.out]; rfl, hB.out.alloc hB.out.size _⟩
      | false =>
      have HY := Lib.hid (hB.out.alloc hB.out.size (.cells #[.int .i64 ow, .int .i64 mrk, .slice D m d] 53))
      have HF2 : Hid (fewS st k = allB (fewC ⟨ow, mrk, D, m, d, ch⟩) m) := Lib.hid (by rw [HFk.out, t1]; rfl)
      clear HFk
      go_wp2_with fail
      clear t1 hc0 hc1 hc2 hb
      go_loopw [40] (fun i w2 => ∃ j : Nat, Hid (j ≤ m) ∧ i = .int .i64 (j : Int) ∧ Hid (∀ i, i < j → fewC ⟨ow, mrk, D, m, d, ch⟩ i = true) ∧ Hid (Below w.heap.size w w2)) (fun i _ => m - (intOf i).toNat)
      case atStart => exact ⟨0, Nat.zero_le _, rfl, Lib.hid (fun i hi => absurd hi (by omega)), HY⟩
      case round =>
        clear HY hB
        obtain ⟨j, hj, rfl, hv2, hB2⟩ := hrel
        by_cases hlt2 : j < m
        · have HL2 : Lch wr D m ch := by
            have := (HA.out.keep hB2.out).2 k hlt
            rw [HS.out] at this
            exact this
          obtain ⟨b2, off2, rfl, hb2, hcells2⟩ := HL2.1 (by omega)
          obtain ⟨hd0, hd1, hd2⟩ := hcells2 j hlt2
          dsimp only at hd0 hd1 hd2
          have hlt2' : (j : Int) < (m : Int) := by omega
          have hqj := HQk.out j hlt2
          have HCv : Hid (fewC ⟨ow, mrk, some ⟨b2, off2, none⟩, m, d, ch⟩ j = !(decide ((10 : Int) < ((ch j).n : Int)))) := rfl
          clear hcells2 HL2
          generalize (ch j).t = tk at hd0
          generalize (ch j).l = lk at hd1
          generalize (ch j).A = Ak at hd2
          generalize (ch j).n = nk at hd2 HCv hqj
          generalize (ch j).c = ck at hd2
          cases t2 : decide ((10 : Int) < (nk : Int)) with
          | true =>
            have HE : Hid (allB (fewS st) n = false) := allB_false hlt (by rw [HF2.out]; exact allB_false hlt2 (by rw [HCv.out, t2]; rfl))
            go_wp2_with fail
            go_ret
            exact ⟨by rw [HE.out]; rfl, hB2.out.alloc hB2.out.size _⟩
          | false =>
            have HV2 : Hid (∀ i, i < j + 1 → fewC ⟨ow, mrk, some ⟨b2, off2, none⟩, m, d, ch⟩ i = true) := fun i hi => by
              by_cases e : i = j
              · rw [e, HCv.out, t2]; rfl
              · exact hv2.out i (by omega)
            clear hv2 HCv
            go_wp2_with fail
            exact ⟨⟨j + 1, Lib.hid (by omega), by rw [show ((j + 1 : Nat) : Int) = (j : Int) + 1 from by omega], HV2, Lib.hid (hB2.out.alloc hB2.out.size _)⟩, by simp [intOf]; omega⟩
        · have hje : j = m := by have := hj.out; omega
          have hlt2' : ¬ (j : Int) < (m : Int) := by omega
          have HVV : Hid (∀ i, i < k + 1 → fewS st i = true) := fun i hi => by
            by_cases e : i = k
            · rw [e, HF2.out]; exact allB_true (fun i hi => hv2.out i (by omega))
            · exact hv.out i (by omega)
          clear hje hv2 hv
          go_wp2_with fail
          exact ⟨⟨k + 1, Lib.hid (by omega), by rw [show ((k + 1 : Nat) : Int) = (k : Int) + 1 from by omega], HVV, hB2⟩, by simp [intOf]; omega⟩
    · have hke : k = n := by have := hk.out; omega
      have HE : Hid (allB (fewS st) n = true) := allB_true (fun i hi => hv.out i (by omega))
      have hlt' : ¬ (k : Int) < (n : Int) := by omega
      clear hke hv
      go_wp2_with fail
      go_ret
      exact ⟨by rw [HE.out]; rfl, hB.out⟩
theorem few_any (A : Option Addr) (n c : Nat) (st : Nat → StV) (w : World) (hA : Lst w A n st) (hm : ∀ i, i < n → (st i).n ≤ 9223372036854775807) (hq : ∀ i j, i < n → j < (st i).n → ((st i).ch j).n ≤ 9223372036854775807) :
    Calls Tryz.prog 43 #[.int .i64 40, .agg #[.slice A n c]] w fun e w' => e = .returned (.bool (fewB n st)) ∧ Below w.heap.size w w' := by
  unfold fewB
  cases g3 : decide ((45 : Int) < (n : Int)) with
  | true =>
    have h : (45 : Int) < (n : Int) := of_decide_eq_true g3
    exact few_long A n c w (by simp; omega) (by simp; omega) g3
  | false =>
    have h : ¬ (45 : Int) < (n : Int) := of_decide_eq_false g3
    rw [show (!false && allB (fewS st) n) = allB (fewS st) n from rfl]
    cases g1 : decide ((40 : Int) < (n : Int)) with
    | true =>
      have h1 : (40 : Int) < (n : Int) := of_decide_eq_true g1
      exact few_b A n c st w (by omega) g1 (by simp; omega) g3 hA hm hq
    | false => exact few_a A n c st w (by omega) g1 g3 hA hm hq
def Two (w : World) (A : Option Addr) (v1 v2 : Value) : Prop := ∃ b, A = some ⟨b, 0, none⟩ ∧ b < w.heap.size ∧ w.cell? ⟨b, 0, none⟩ = some v1 ∧ w.cell? ⟨b, 1, none⟩ = some v2
def brE (h h' : ChV) (j : Nat) : Bool := (h.tw j == h'.tw j) && (h.ct j == h'.ct j) && (h.cl j == h'.cl j)
def chE (h h' : ChV) : Bool := (h.t == h'.t) && (h.l == h'.l) && (((h.n : Int) == (h'.n : Int)) && allB (brE h h') h.n)
def stE (s s' : StV) : Bool := (s.ow == s'.ow) && (s.mrk == s'.mrk) && (((s.n : Int) == (s'.n : Int)) && allB (fun j => chE (s.ch j) (s'.ch j)) s.n)
def moE (n n' : Nat) (st st' : Nat → StV) : Bool := ((n : Int) == (n' : Int)) && allB (fun i => stE (st i) (st' i)) n
theorem int_same {n m : Nat} (h : ((n : Int) == (m : Int)) = true) : n = m := by
  have := beq_iff_eq.1 h
  omega
theorem ne_of_beq {x y : Int} (h : (x == y) = false) : (x != y) = true := by
  show (!(x == y)) = true
  rw [h]
  rfl
theorem not_of_beq {x y : Int} (h : (x == y) = false) : ¬ x = y := fun e => by
  rw [e, beq_self_eq_true] at h
  cases h
end Go.Proofs.YtmfnpipmbpnfbaaGreatDoor
