/- Identical models: the program's and the reference's. -/
import Derived.Test.YtmfnpipmbpnfbaaGreatDoorF36
import Derived.Test.YtmfnpipmbpnfbaaGreatDoorF35
import Derived.Test.YtmfnpipmbpnfbaaGreatDoorF33
import Derived.Test.YtmfnpipmbpnfbaaGreatDoorRows
import Derived.WalkKit
import Derived.ProofKit
import Derived.OpenShut
import Derived.Below
import Derived.ChangeSame
import Derived.Lib.SmallJoins
import Derived.Carry
import Derived.ChangeOld

set_option maxRecDepth 100000
set_option maxHeartbeats 40000000
namespace Go.Proofs.YtmfnpipmbpnfbaaGreatDoor
open Go.RowKit
def Szs (n : Nat) (st : Nat → StV) : Prop := n ≤ 1000000 ∧ (∀ i, i < n → (st i).n ≤ 1000000) ∧ ∀ i j, i < n → j < (st i).n → ((st i).ch j).n ≤ 1000000
theorem rident_len (A B : Option Addr) (n c m d : Nat) (w : World) (_hn : n ≤ 1000000) (_hm : m ≤ 1000000) (g : ((n : Int) != (m : Int)) = true) :
    Calls Tryz.prog 23 #[.agg #[.slice A n c], .agg #[.slice B m d]] w fun e w' => e = .returned (.bool false) ∧ Below w.heap.size w w' := by
  go_enter Tryz.func23, Tryz.ntmps23
  go_upto_region 1 with fail
  generalize hZ : World.alloc _ _ = Z
  have HZ : Hid (Below w.heap.size w Z) := by rw [← hZ]; exact (below_alloc _ _).trans ((below_alloc _ _).mono (by simp))
  have BX : Hid (MBx Z w.heap.size A n c) := by rw [← hZ]; exact (MBx.new _ _ _ _ _).keep (below_alloc _ _)
  have BY : Hid (MBx Z (w.heap.size + 1) B m d) := by
    rw [← hZ]
    have := MBx.new (w.alloc (.cells #[.slice A n c] 24)) B m d 24
    rw [show (w.alloc (.cells #[.slice A n c] 24)).heap.size = w.heap.size + 1 from by simp] at this
    exact this
  clear hZ
  obtain ⟨j0, -⟩ := BX.out
  obtain ⟨k0, -⟩ := BY.out
  go_wp2_with fail
  go_ret
  exact ⟨rfl, HZ.out⟩
theorem rident_same (A B : Option Addr) (n c d : Nat) (st st' : Nat → StV) (w : World) (hA : Lst w A n st) (hB : Lst w B n st') (hs : Szs n st) (hs' : Szs n st') :
    Calls Tryz.prog 23 #[.agg #[.slice A n c], .agg #[.slice B n d]] w fun e w' => e = .returned (.bool (allB (fun i => stE (st i) (st' i)) n)) ∧ Below w.heap.size w w' := by
  have HA := Lib.hid hA
  have HB := Lib.hid hB
  have HS1 := Lib.hid hs
  have HS2 := Lib.hid hs'
  have hn := hs.1
  have g : ((n : Int) != (n : Int)) = false := by simp
  clear hA hB hs hs'
  go_enter Tryz.func23, Tryz.ntmps23
  go_upto_region 1 with fail
  generalize hZ : World.alloc _ _ = Z
  have HZ : Hid (Below w.heap.size w Z) := by rw [← hZ]; exact (below_alloc _ _).trans ((below_alloc _ _).mono (by simp))
  have BX : Hid (MBx Z w.heap.size A n c) := by rw [← hZ]; exact (MBx.new _ _ _ _ _).keep (below_alloc _ _)
  have BY : Hid (MBx Z (w.heap.size + 1) B n d) := by
    rw [← hZ]
    have := MBx.new (w.alloc (.cells #[.slice A n c] 24)) B n d 24
    rw [show (w.alloc (.cells #[.slice A n c] 24)).heap.size = w.heap.size + 1 from by simp] at this
    exact this
  clear hZ
  obtain ⟨j0, -⟩ := BX.out
  obtain ⟨k0, -⟩ := BY.out
  go_wp2_with fail
  clear j0 k0
  go_loopw [23] (fun i wr => ∃ k : Nat, Hid (k ≤ n) ∧ i = .int .i64 (k : Int) ∧ Hid (∀ j, j < k → stE (st j) (st' j) = true) ∧ Hid (MBx wr (w.heap.size + 1) B n d) ∧ Hid (Below w.heap.size w wr)) (fun i _ => n - (intOf i).toNat)
  case atStart => exact ⟨0, Nat.zero_le _, rfl, Lib.hid (fun i hi => absurd hi (by omega)), BY, HZ⟩
  case round =>
    clear BX BY HZ
    obtain ⟨k, hk, rfl, hv, hM, hW⟩ := hrel
    by_cases hlt : k < n
    · obtain ⟨b, off, hAe, hb, hcells⟩ := (HA.out.keep hW.out).1 (by omega)
      obtain ⟨hc0, hc1, hc2⟩ := hcells k hlt
      obtain ⟨b', off', hBe, hb', hcells'⟩ := (HB.out.keep hW.out).1 (by omega)
      obtain ⟨hd0, hd1, hd2⟩ := hcells' k hlt
      dsimp only at hc0 hc1 hc2 hd0 hd1 hd2
      have hlt' : (k : Int) < (n : Int) := by omega
      have hmk := HS1.out.2.1 k hlt
      have hmk' := HS2.out.2.1 k hlt
      have HQ := Lib.hid (fun j => HS1.out.2.2 k j hlt)
      have HQ' := Lib.hid (fun j => HS2.out.2.2 k j hlt)
      clear hcells hcells'
      generalize hS : st k = S at *
      have HS := Lib.hid hS
      generalize hS' : st' k = S' at *
      have HS' := Lib.hid hS'
      clear hS hS'
      obtain ⟨ow, mrk, D, m, f, ch⟩ := S
      obtain ⟨ow', mrk', D', m', f', ch'⟩ := S'
      simp only at hc0 hc1 hc2 hd0 hd1 hd2 hmk hmk' HQ HQ'
      have hM0 := hM.out.1
      subst hAe
      subst hBe
      go_upto_region 6 with fail
      generalize hY : wr.alloc _ = Y
      have hYr : Below wr.heap.size wr Y := by subst hY; exact below_alloc _ _
      have BX0 : Hid (Bc3 Y wr.heap.size (.int .i64 ow) (.int .i64 mrk) (.slice D m f)) := by rw [← hY]; exact Bc3.new _ _ _ _ _
      replace hd0 := (hYr.cell (p := ⟨b', off' + k * 3, none⟩) hb').trans hd0
      replace hd1 := (hYr.cell (p := ⟨b', off' + k * 3 + 1, none⟩) hb').trans hd1
      replace hd2 := (hYr.cell (p := ⟨b', off' + k * 3 + 2, none⟩) hb').trans hd2
      have HM1 := Lib.hid (hM.out.keep hYr)
      have HW1 := Lib.hid (hW.out.trans (hYr.mono hW.out.size))
      clear hY hYr hc0 hc1 hc2 hb hb' hW hM hM0
      have hM1 := HM1.out.1
      go_upto_region 7 with fail
      generalize hZ : Y.alloc _ = Z
      have hZr : Below Y.heap.size Y Z := by subst hZ; exact below_alloc _ _
      have BX := Lib.hid (BX0.out.keep hZr)
      have BY : Hid (Bc3 Z Y.heap.size (.int .i64 ow') (.int .i64 mrk') (.slice D' m' f')) := by rw [← hZ]; exact Bc3.new _ _ _ _ _
      have HM2 := Lib.hid (HM1.out.keep hZr)
      have HW2 := Lib.hid (HW1.out.trans (hZr.mono HW1.out.size))
      clear hZ hZr hd0 hd1 hd2 BX0 HW1 HM1 hM1
      generalize wr.heap.size = g6 at *
      generalize Y.heap.size = g7 at *
      obtain ⟨j0, j1, j2, -⟩ := BX.out
      obtain ⟨k0, k1, k2, -⟩ := BY.out
      have HST : Hid (stE (st k) (st' k) = ((ow == ow') && (mrk == mrk') && (((m : Int) == (m' : Int)) && allB (fun j => chE (ch j) (ch' j)) m))) := Lib.hid (by rw [HS.out, HS'.out]; rfl)
      cases e1 : (ow == ow') with
      | false =>
        have HE : Hid (allB (fun i => stE (st i) (st' i)) n = false) := allB_false hlt (by rw [HST.out, e1]; rfl)
        have h1 := ne_of_beq e1
        go_wp2_with fail
        go_ret
        exact ⟨by rw [HE.out]; rfl, HW2.out⟩
      | true =>
      obtain rfl := beq_iff_eq.1 e1
      clear e1
      cases e2 : (mrk == mrk') with
      | false =>
        have HE : Hid (allB (fun i => stE (st i) (st' i)) n = false) := allB_false hlt (by rw [HST.out, e2]; simp)
        have h1 := ne_of_beq e2
        go_wp2_with fail
        go_ret
        exact ⟨by rw [HE.out]; rfl, HW2.out⟩
      | true =>
      obtain rfl := beq_iff_eq.1 e2
      clear e2
      cases e3 : ((m : Int) == (m' : Int)) with
      | false =>
        have HE : Hid (allB (fun i => stE (st i) (st' i)) n = false) := allB_false hlt (by rw [HST.out, e3]; simp)
        have h1 := ne_of_beq e3
        go_wp2_with fail
        go_ret
        exact ⟨by rw [HE.out]; rfl, HW2.out⟩
      | true =>
      obtain rfl := int_same e3
      have HST2 : Hid (stE (st k) (st' k) = allB (fun j => chE (ch j) (ch' j)) m) := Lib.hid (by rw [HST.out]; simp)
      have HP7 : Hid (PBx Z g7 D' m f') := ⟨BY.out.2.2.1, BY.out.2.2.2⟩
      have g2 : ((m : Int) != (m : Int)) = false := by simp
      clear e3 HST
      go_wp2_with fail
      clear j0 j1 j2 k0 k1 k2 BX BY
      go_loopw [57] (fun i w2 => ∃ j : Nat, Hid (j ≤ m) ∧ i = .int .i64 (j : Int) ∧ Hid (∀ i, i < j → chE (ch i) (ch' i) = true) ∧ Hid (PBx w2 g7 D' m f') ∧ Hid (MBx w2 (w.heap.size + 1) (some ⟨b', off', none⟩) n d) ∧ Hid (Below w.heap.size w w2)) (fun i _ => m - (intOf i).toNat)
      case atStart => exact ⟨0, Nat.zero_le _, rfl, Lib.hid (fun i hi => absurd hi (by omega)), HP7, HM2, HW2⟩
      case round =>
        clear HP7 HM2 HW2
        obtain ⟨j, hj, rfl, hv2, hP, hM, hW⟩ := hrel
        by_cases hlt2 : j < m
        · have HL2 : Lch wr D m ch := by
            have := (HA.out.keep hW.out).2 k hlt
            rw [HS.out] at this
            exact this
          have HL2' : Lch wr D' m ch' := by
            have := (HB.out.keep hW.out).2 k hlt
            rw [HS'.out] at this
            exact this
          obtain ⟨b2, off2, hDe, hb2, hcells2⟩ := HL2.1 (by omega)
          obtain ⟨hc0, hc1, hc2⟩ := hcells2 j hlt2
          obtain ⟨b2', off2', hDe', hb2', hcells2'⟩ := HL2'.1 (by omega)
          obtain ⟨hd0, hd1, hd2⟩ := hcells2' j hlt2
          dsimp only at hc0 hc1 hc2 hd0 hd1 hd2
          have hlt2' : (j : Int) < (m : Int) := by omega
          have hqj := HQ.out j hlt2
          have hqj' := HQ'.out j hlt2
          clear hcells2 HL2 hcells2' HL2'
          generalize hC : ch j = C at *
          have HCj := Lib.hid hC
          generalize hC' : ch' j = C' at *
          have HCj' := Lib.hid hC'
          clear hC hC'
          obtain ⟨t, l, E, r, e5, tw, ct, cl⟩ := C
          obtain ⟨t', l', E', r', e5', tw', ct', cl'⟩ := C'
          simp only at hc0 hc1 hc2 hd0 hd1 hd2 hqj hqj'
          subst hDe
          subst hDe'
          have hP0 := hP.out.1
          go_upto_region 12 with fail
          generalize hY : wr.alloc _ = Y
          have hYr : Below wr.heap.size wr Y := by subst hY; exact below_alloc _ _
          have BX0 : Hid (Bc3 Y wr.heap.size (.int .i64 t) (.int .i64 l) (.slice E r e5)) := by rw [← hY]; exact Bc3.new _ _ _ _ _
          replace hd0 := (hYr.cell (p := ⟨b2', off2' + j * 3, none⟩) hb2').trans hd0
          replace hd1 := (hYr.cell (p := ⟨b2', off2' + j * 3 + 1, none⟩) hb2').trans hd1
          replace hd2 := (hYr.cell (p := ⟨b2', off2' + j * 3 + 2, none⟩) hb2').trans hd2
          have HP1 := Lib.hid (hP.out.keep hYr)
          have HM1 := Lib.hid (hM.out.keep hYr)
          have HW1 := Lib.hid (hW.out.trans (hYr.mono hW.out.size))
          clear hY hYr hc0 hc1 hc2 hb2 hb2' hW hM hP hP0
          have hP1 := HP1.out.1
          go_upto_region 13 with fail
          generalize hZ : Y.alloc _ = Z
          have hZr : Below Y.heap.size Y Z := by subst hZ; exact below_alloc _ _
          have BX := Lib.hid (BX0.out.keep hZr)
          have BY : Hid (Bc3 Z Y.heap.size (.int .i64 t') (.int .i64 l') (.slice E' r' e5')) := by rw [← hZ]; exact Bc3.new _ _ _ _ _
          have HP2 := Lib.hid (HP1.out.keep hZr)
          have HM2 := Lib.hid (HM1.out.keep hZr)
          have HW2 := Lib.hid (HW1.out.trans (hZr.mono HW1.out.size))
          clear hZ hZr hd0 hd1 hd2 BX0 HW1 HM1 HP1 hP1
          generalize wr.heap.size = g9 at *
          generalize Y.heap.size = g10 at *
          obtain ⟨j0, j1, j2, -⟩ := BX.out
          obtain ⟨k0, k1, k2, -⟩ := BY.out
          have HCT : Hid (chE (ch j) (ch' j) = ((t == t') && (l == l') && (((r : Int) == (r' : Int)) && allB (brE ⟨t, l, E, r, e5, tw, ct, cl⟩ ⟨t', l', E', r', e5', tw', ct', cl'⟩) r))) := Lib.hid (by rw [HCj.out, HCj'.out]; rfl)
          cases e1 : (t == t') with
          | false =>
            have HE : Hid (allB (fun i => stE (st i) (st' i)) n = false) := allB_false hlt (by rw [HST2.out]; exact allB_false hlt2 (by rw [HCT.out, e1]; rfl))
            have h1 := not_of_beq e1
            go_wp2_with fail
            go_ret
            exact ⟨by rw [HE.out]; rfl, HW2.out⟩
          | true =>
          obtain rfl := beq_iff_eq.1 e1
          clear e1
          cases e2 : (l == l') with
          | false =>
            have HE : Hid (allB (fun i => stE (st i) (st' i)) n = false) := allB_false hlt (by rw [HST2.out]; exact allB_false hlt2 (by rw [HCT.out, e2]; simp))
            have h1 := not_of_beq e2
            go_wp2_with fail
            go_ret
            exact ⟨by rw [HE.out]; rfl, HW2.out⟩
          | true =>
          obtain rfl := beq_iff_eq.1 e2
          clear e2
          cases e3 : ((r : Int) == (r' : Int)) with
          | false =>
            have HE : Hid (allB (fun i => stE (st i) (st' i)) n = false) := allB_false hlt (by rw [HST2.out]; exact allB_false hlt2 (by rw [HCT.out, e3]; simp))
            have h1 := ne_of_beq e3
            go_wp2_with fail
            go_ret
            exact ⟨by rw [HE.out]; rfl, HW2.out⟩
          | true =>
          obtain rfl := int_same e3
          have HCT2 : Hid (chE (ch j) (ch' j) = allB (brE ⟨t, l, E, r, e5, tw, ct, cl⟩ ⟨t, l, E', r, e5', tw', ct', cl'⟩) r) := Lib.hid (by rw [HCT.out]; simp)
          have HP10 : Hid (PBx Z g10 E' r e5') := ⟨BY.out.2.2.1, BY.out.2.2.2⟩
          have g3 : ((r : Int) != (r : Int)) = false := by simp
          clear e3 HCT
          go_wp2_with fail
          clear j0 j1 j2 k0 k1 k2 BX BY
          go_loopw [84] (fun i w2 => ∃ q : Nat, Hid (q ≤ r) ∧ i = .int .i64 (q : Int) ∧ Hid (∀ i, i < q → brE ⟨t, l, E, r, e5, tw, ct, cl⟩ ⟨t, l, E', r, e5', tw', ct', cl'⟩ i = true) ∧ Hid (PBx w2 g10 E' r e5') ∧ Hid (PBx w2 g7 (some ⟨b2', off2', none⟩) m f') ∧ Hid (MBx w2 (w.heap.size + 1) (some ⟨b', off', none⟩) n d) ∧ Hid (Below w.heap.size w w2)) (fun i _ => r - (intOf i).toNat)
          case atStart => exact ⟨0, Nat.zero_le _, rfl, Lib.hid (fun i hi => absurd hi (by omega)), HP10, HP2, HM2, HW2⟩
          case round =>
            clear HP10 HP2 HM2 HW2
            obtain ⟨q, hq, rfl, hv3, hPq, hP, hM, hW⟩ := hrel
            by_cases hlt3 : q < r
            · have HL3 : Lbr wr E r tw ct cl := by
                have := ((HA.out.keep hW.out).2 k hlt)
                rw [HS.out] at this
                have h2 : Lbr wr (ch j).A (ch j).n (ch j).tw (ch j).ct (ch j).cl := this.2 j hlt2
                rw [HCj.out] at h2
                exact h2
              have HL3' : Lbr wr E' r tw' ct' cl' := by
                have := ((HB.out.keep hW.out).2 k hlt)
                rw [HS'.out] at this
                have h2 : Lbr wr (ch' j).A (ch' j).n (ch' j).tw (ch' j).ct (ch' j).cl := this.2 j hlt2
                rw [HCj'.out] at h2
                exact h2
              obtain ⟨b3, off3, hEe, hb3, hcells3⟩ := HL3 (by omega)
              obtain ⟨hc0, hc1, hc2⟩ := hcells3 q hlt3
              obtain ⟨b3', off3', hEe', hb3', hcells3'⟩ := HL3' (by omega)
              obtain ⟨hd0, hd1, hd2⟩ := hcells3' q hlt3
              dsimp only at hc0 hc1 hc2 hd0 hd1 hd2
              have hlt3' : (q : Int) < (r : Int) := by omega
              have HBR : Hid (brE ⟨t, l, E, r, e5, tw, ct, cl⟩ ⟨t, l, E', r, e5', tw', ct', cl'⟩ q = ((tw q == tw' q) && (ct q == ct' q) && (cl q == cl' q))) := rfl
              clear hcells3 HL3 hcells3' HL3'
              subst hEe
              subst hEe'
              generalize tw q = xk at hc0 HBR
              generalize ct q = yk at hc1 HBR
              generalize cl q = zk at hc2 HBR
              generalize tw' q = xk' at hd0 HBR
              generalize ct' q = yk' at hd1 HBR
              generalize cl' q = zk' at hd2 HBR
              have hPq0 := hPq.out.1
              go_upto_region 18 with fail
              generalize hY : wr.alloc _ = Y
              have hYr : Below wr.heap.size wr Y := by subst hY; exact below_alloc _ _
              obtain ⟨j0, j1, j2⟩ : Y.cell? ⟨wr.heap.size, 0, none⟩ = some (.int .i64 xk) ∧ Y.cell? ⟨wr.heap.size, 1, none⟩ = some (.int .i64 yk) ∧ Y.cell? ⟨wr.heap.size, 2, none⟩ = some (.int .i64 zk) := by
                subst hY
                simp [go_sem]
              replace hd0 := (hYr.cell (p := ⟨b3', off3' + q * 3, none⟩) hb3').trans hd0
              replace hd1 := (hYr.cell (p := ⟨b3', off3' + q * 3 + 1, none⟩) hb3').trans hd1
              replace hd2 := (hYr.cell (p := ⟨b3', off3' + q * 3 + 2, none⟩) hb3').trans hd2
              have HPq := Lib.hid (hPq.out.keep hYr)
              have HP1 := Lib.hid (hP.out.keep hYr)
              have HM1 := Lib.hid (hM.out.keep hYr)
              have HW1 := Lib.hid (hW.out.trans (hYr.mono hW.out.size))
              clear hY hYr hc0 hc1 hc2 hb3 hb3' hW hM hP hPq hPq0
              have hPq1 := HPq.out.1
              cases e1 : (xk == xk') with
              | false =>
                have HE : Hid (allB (fun i => stE (st i) (st' i)) n = false) := allB_false hlt (by rw [HST2.out]; exact allB_false hlt2 (by rw [HCT2.out]; exact allB_false hlt3 (by rw [HBR.out, e1]; rfl)))
                have h1 := not_of_beq e1
                clear e1
                go_quiet (fail)
                go_wp2_with fail
                go_ret
                exact ⟨by rw [HE.out]; rfl, HW1.out.trans (Drn.below ⟨_, rfl⟩ _)⟩
              | true =>
              obtain rfl := beq_iff_eq.1 e1
              clear e1
              cases e2 : (yk == yk') with
              | false =>
                have HE : Hid (allB (fun i => stE (st i) (st' i)) n = false) := allB_false hlt (by rw [HST2.out]; exact allB_false hlt2 (by rw [HCT2.out]; exact allB_false hlt3 (by rw [HBR.out, e2]; simp)))
                have h1 := not_of_beq e2
                clear e2
                go_quiet (fail)
                go_wp2_with fail
                go_ret
                exact ⟨by rw [HE.out]; rfl, HW1.out.trans (Drn.below ⟨_, rfl⟩ _)⟩
              | true =>
              obtain rfl := beq_iff_eq.1 e2
              clear e2
              cases e3 : (zk == zk') with
              | false =>
                have HE : Hid (allB (fun i => stE (st i) (st' i)) n = false) := allB_false hlt (by rw [HST2.out]; exact allB_false hlt2 (by rw [HCT2.out]; exact allB_false hlt3 (by rw [HBR.out, e3]; simp)))
                have h1 := not_of_beq e3
                clear e3
                go_quiet (fail)
                go_wp2_with fail
                go_ret
                exact ⟨by rw [HE.out]; rfl, HW1.out.trans (Drn.below ⟨_, rfl⟩ _)⟩
              | true =>
                obtain rfl := beq_iff_eq.1 e3
                clear e3
                have HV3 : Hid (∀ i, i < q + 1 → brE ⟨t, l, some ⟨b3, off3, none⟩, r, e5, tw, ct, cl⟩ ⟨t, l, some ⟨b3', off3', none⟩, r, e5', tw', ct', cl'⟩ i = true) := fun i hi => by
                  by_cases e : i = q
                  · rw [e, HBR.out]; simp
                  · exact hv3.out i (by omega)
                clear hv3 HBR
                go_quiet (fail)
                go_wp2_with fail
                exact ⟨⟨q + 1, Lib.hid (by omega), by rw [show ((q + 1 : Nat) : Int) = (q : Int) + 1 from by omega], HV3, Lib.hid (HPq.out.keep (Drn.below ⟨_, rfl⟩ _)), Lib.hid (HP1.out.keep (Drn.below ⟨_, rfl⟩ _)), Lib.hid (HM1.out.keep (Drn.below ⟨_, rfl⟩ _)), Lib.hid (HW1.out.trans (Drn.below ⟨_, rfl⟩ _))⟩, by simp [intOf]; omega⟩
            · have hqe : q = r := by have := hq.out; omega
              have hlt3' : ¬ (q : Int) < (r : Int) := by omega
              have HV2 : Hid (∀ i, i < j + 1 → chE (ch i) (ch' i) = true) := fun i hi => by
                by_cases e : i = j
                · rw [e, HCT2.out]; exact allB_true (fun i hi => hv3.out i (by omega))
                · exact hv2.out i (by omega)
              clear hqe hv3 hv2
              go_wp2_with fail
              exact ⟨⟨j + 1, Lib.hid (by omega), by rw [show ((j + 1 : Nat) : Int) = (j : Int) + 1 from by omega], HV2, hP, hM, hW⟩, by simp [intOf]; omega⟩
        · have hje : j = m := by have := hj.out; omega
          have hlt2' : ¬ (j : Int) < (m : Int) := by omega
          have HVV : Hid (∀ i, i < k + 1 → stE (st i) (st' i) = true) := fun i hi => by
            by_cases e : i = k
            · rw [e, HST2.out]; exact allB_true (fun i hi => hv2.out i (by omega))
            · exact hv.out i (by omega)
          clear hje hv2 hv
          go_wp2_with fail
          exact ⟨⟨k + 1, Lib.hid (by omega), by rw [show ((k + 1 : Nat) : Int) = (k : Int) + 1 from by omega], HVV, hM, hW⟩, by simp [intOf]; omega⟩
    · have hke : k = n := by have := hk.out; omega
      have HE : Hid (allB (fun i => stE (st i) (st' i)) n = true) := allB_true (fun i hi => hv.out i (by omega))
      have hlt' : ¬ (k : Int) < (n : Int) := by omega
      clear hke hv
      go_wp2_with fail
      go_ret
      exact ⟨by rw [HE.out]; rfl, hW.out⟩
theorem rident_any (A B : Option Addr) (n c m d : Nat) (st st' : Nat → StV) (w : World) (hA : Lst w A n st) (hB : Lst w B m st') (hs : Szs n st) (hs' : Szs m st') :
    Calls Tryz.prog 23 #[.agg #[.slice A n c], .agg #[.slice B m d]] w fun e w' => e = .returned (.bool (moE n m st st')) ∧ Below w.heap.size w w' := by
  unfold moE
  cases g : ((n : Int) == (m : Int)) with
  | false => exact rident_len A B n c m d w hs.1 hs'.1 (ne_of_beq g)
  | true =>
    obtain rfl := int_same g
    exact rident_same A B n c d st st' w hA hB hs hs'
theorem mv_cv {A : Option Addr} {n c : Nat} {st : Nat → StV} {w : World} (hs : Szs n st) (hA : Lst w A n st) : CV 20 #[.agg #[.slice A n c]] (.bool (moB n st)) w := by
  intro wx hb
  have hA := hA.keep hb
  refine mvalid_any A n c st wx hs.1 hA (Lib.hid fun i hi wy hy => ?_)
  have hC := (hA.2 i hi).keep hy
  refine isState_any (st i) n wy (hs.2.1 i hi) hC (Lib.hid fun j hj wz hz => ?_)
  exact areB_any _ _ _ n _ _ _ wz (hs.2.2 i j hi hj) hs.1 ((hC.2 j hj).keep hz)
theorem rmv_cv {A : Option Addr} {n c : Nat} {st : Nat → StV} {w : World} (hs : Szs n st) (hA : Lst w A n st) : CV 21 #[.agg #[.slice A n c]] (.bool (moB n st)) w := by
  intro wx hb
  have hA := hA.keep hb
  refine rmvalid_any A n c st wx hs.1 hA hs.2.1 (Lib.hid fun i j hi hj wy hy => ?_)
  exact rchoice_any ((st i).ch j) n wy (hs.2.2 i j hi hj) hs.1 (((hA.2 i hi).2 j hj).keep hy)
theorem dSt_szs (C1 C2 C3 S1 S2 S3 S4 : Option Addr) : Szs 3 (dSt C1 C2 C3 S1 S2 S3 S4) := by
  have H := dSt_ok C1 C2 C3 S1 S2 S3 S4
  refine ⟨by omega, fun i hi => ?_, fun i j hi hj => ?_⟩
  · have := stB_n (moB_st H hi)
    omega
  · have := bsB_n (chB_bs (stB_ch (moB_st H hi) hj))
    omega
theorem diceText_len : diceText.length ≤ 32768 := by decide
theorem awake_any (w : World) (htab : Tab w) : Calls Tryz.prog 11 #[] w fun e w' => e = .returned (.bool true) ∧ Below w.heap.size w w' := by
  have HT := Lib.hid htab
  clear htab
  go_enter Tryz.func11, Tryz.ntmps11
  go_wp2_with fail
  (with_reducible refine (dice_any _).mono ?_)
  rintro e w1 ⟨A, C1, C2, C3, S1, S2, S3, S4, rfl, hL, hB⟩
  have HL := Lib.hid hL
  have B1 := Lib.hid hB
  have HT1 := Lib.hid (HT.out.keep hB)
  clear hL hB
  go_wp2_with fail
  (with_reducible refine (mprint_ok A 3 3 _ w1 (dSt_ok _ _ _ _ _ _ _) HL.out HT1.out (Lib.hid (by have h := mv_cv (c := 3) (dSt_szs C1 C2 C3 S1 S2 S3 S4) HL.out; rw [dSt_ok] at h; exact h)) (by rw [dSt_text]; exact diceText_len)).mono ?_)
  rintro e w2 ⟨rfl, hB⟩
  rw [dSt_text]
  have B2 := Lib.hid (B1.out.trans (hB.mono B1.out.size))
  clear hB
  go_wp2_with fail
  exact bodyPost_ret (v := .bool true) (by simp [results, Tryz.results11, go_sem, *]; rfl) rfl ⟨rfl, B2.out⟩
theorem lfew_any (g m : Nat) (A : Nat → Option Addr) (n c : Nat → Nat) (b : Nat → Bool) (w : World) (hm : m ≤ 1000000) (hg : g < w.heap.size)
    (hL : Hid (∀ i, i < m → w.cell? ⟨g, i, none⟩ = some (.slice (A i) (n i) (c i))))
    (HF : Hid (∀ i, i < m → CV 43 #[.int .i64 40, .agg #[.slice (A i) (n i) (c i)]] (.bool (b i)) w)) :
    Calls Tryz.prog 10 #[.slice (some ⟨g, 0, none⟩) m m] w fun e w' => e = .returned (.bool (allB b m)) ∧ Below w.heap.size w w' := by
  go_enter Tryz.func10, Tryz.ntmps10
  go_wp2_with fail
  go_loopw [7] (fun i wr => ∃ k : Nat, Hid (k ≤ m) ∧ i = .int .i64 (k : Int) ∧ Hid (∀ j, j < k → b j = true) ∧ Hid (Below w.heap.size w wr)) (fun i _ => m - (intOf i).toNat)
  case atStart => exact ⟨0, Nat.zero_le _, rfl, Lib.hid (fun i hi => absurd hi (by omega)), Lib.hid (Below.refl _ _)⟩
  case round =>
    obtain ⟨k, hk, rfl, hv, hB⟩ := hrel
    by_cases hlt : k < m
    · have hc0 : wr.cell? ⟨g, k, none⟩ = some (.slice (A k) (n k) (c k)) := (hB.out.cell (p := ⟨g, k, none⟩) hg).trans (hL.out k hlt)
      have HFk := Lib.hid (HF.out k hlt)
      have HBk := Lib.hid (Eq.refl (b k))
      have hlt' : (k : Int) < (m : Int) := by omega
      generalize A k = Ak at hc0 HFk
      generalize n k = nk at hc0 HFk
      generalize c k = ck at hc0 HFk
      generalize hbk : b k = bk at HFk
      have HBk := Lib.hid hbk
      clear hbk
      have HY := Lib.hid (hB.out.alloc hB.out.size (.cells #[.slice Ak nk ck] 24))
      go_wp2_with fail
      (with_reducible refine (HFk.out.run HY.out).mono ?_)
      rintro e w2 ⟨rfl, hB2⟩
      have B2 := Lib.hid (HY.out.trans (hB2.mono HY.out.size))
      clear hB2
      cases bk with
      | false =>
        have HE : Hid (allB b m = false) := allB_false hlt HBk.out
        go_wp2_with fail
        go_ret
        exact ⟨by rw [HE.out]; rfl, B2.out⟩
      | true =>
        have HV : Hid (∀ i, i < k + 1 → b i = true) := fun i hi => by
          by_cases e : i = k
          · rw [e]; exact HBk.out
          · exact hv.out i (by omega)
        clear hv
        go_wp2_with fail
        exact ⟨⟨k + 1, Lib.hid (by omega), by rw [show ((k + 1 : Nat) : Int) = (k : Int) + 1 from by omega], HV, B2⟩, by simp [intOf]; omega⟩
    · have hke : k = m := by have := hk.out; omega
      have HE : Hid (allB b m = true) := allB_true (fun i hi => hv.out i (by omega))
      have hlt' : ¬ (k : Int) < (m : Int) := by omega
      clear hke hv
      go_wp2_with fail
      go_ret
      exact ⟨by rw [HE.out]; rfl, hB.out⟩
def FitsM (n : Nat) (st : Nat → StV) : Prop := (∀ i, i < n → (st i).n ≤ 9223372036854775807) ∧ ∀ i j, i < n → j < (st i).n → ((st i).ch j).n ≤ 9223372036854775807
theorem few_cv {A : Option Addr} {n c : Nat} {st : Nat → StV} {w : World} (hf : FitsM n st) (hA : Lst w A n st) : CV 43 #[.int .i64 40, .agg #[.slice A n c]] (.bool (fewB n st)) w :=
  fun wx hb => few_any A n c st wx (hA.keep hb) hf.1 hf.2
theorem few_szs {n : Nat} {st : Nat → StV} (h : fewB n st = true) : Szs n st := by
  simp only [fewB, Bool.and_eq_true, Bool.not_eq_true', decide_eq_false_iff_not] at h
  refine ⟨by omega, fun i hi => ?_, fun i j hi hj => ?_⟩
  · have h2 := allB_get h.2 hi
    simp only [fewS, Bool.and_eq_true, Bool.not_eq_true', decide_eq_false_iff_not] at h2
    omega
  · have h2 := allB_get h.2 hi
    simp only [fewS, Bool.and_eq_true] at h2
    have h3 := allB_get h2.2 hj
    simp only [fewC, Bool.not_eq_true', decide_eq_false_iff_not] at h3
    omega
end Go.Proofs.YtmfnpipmbpnfbaaGreatDoor
namespace Go.Proofs.YtmfnpipmbpnfbaaGreatDoor
open Go.ChangeShapes Go.WideShapes Go.ChangeAt Go.RowKit Go.Joins
theorem Tryz.own : ownKnob Tryz.prog.godebug = none := by kernel_rfl
section
variable {H : Type} {enc : TypeId × Value → H} {P : Program}
theorem post_of_below {f : Func} {s : ChangeSpec} {apart fresh handsOn again : Bool} {W W' : World} {args : Array Value} {v : Value} {ds gs : List (DataW H)} {before pa pv : List MemPlace}
    (hW : DataW.Whole enc P f.params.toList s.vars apart W args.toList ds gs before)
    (hres : ∀ (b : Nat) (sp : Nat → Bool) (hd : Bool), DataW.TrodAll enc P W' b sp hd f.resultTypes.toList (v.resultList f.resultTypes.size) (s.fn H (ds ++ gs)).results [])
    (hargs : ∀ sp : Nat → Bool, (∀ p ∈ before, sp p.block = true) → DataW.TrodAll enc P W' 0 sp true f.params.toList args.toList (s.fn H (ds ++ gs)).args pa)
    (hvars : ∀ sp : Nat → Bool, (∀ p ∈ before, sp p.block = true) → DataW.TrodVars enc P W' sp s.vars (s.fn H (ds ++ gs)).vars pv)
    (hps : before = pa ++ pv) (hb : Below W.heap.size W W')
    (hok : ∀ (j : Nat) (t : TypeId) (r : Value), f.resultTypes[j]? = some t → (v.resultList f.resultTypes.size)[j]? = some r → Value.okWide P W' .any 0 t r) :
    s.post enc P f apart fresh handsOn again W args v W' := by
  have hlt : ∀ p ∈ before, p.block < W.heap.size := fun p hp => hW.lt p hp
  have hold : ∀ p ∈ before, (fun b => decide (b < W.heap.size)) p.block = true := fun p hp => by simpa using hlt p hp
  refine ⟨ds, gs, before, [], pa, pv, hW, hres _ _ _, hargs _ hold, hvars _ hold, World.keptBut_mono (fun p hp => ⟨hp, ?_⟩) (hb.frame (· ∈ before)), fun _ => ?_⟩
  · rw [hps, List.mem_append] at hp
    exact Or.inr hp
  · obtain ⟨_, _, _, _, _, hz, hn⟩ := hW
    refine ⟨hok, _, _, ([] ++ pa) ++ pv, ⟨[] ++ pa, pv, trodAll_append (hargs _ (fun _ _ => rfl)) (hres _ _ _), hvars _ (fun _ _ => rfl), rfl, ?_, ?_⟩, ?_⟩
    · intro b off hp
      have hin : MemPlace.cell b off ∈ before := by rw [hps]; simpa using hp
      rw [hb.frozen (hlt _ hin)]
      exact hz b off hin
    · intro ha
      have := hn ha
      rw [hps] at this
      simpa using this
    · intro p hp _
      rw [hps]
      simpa using hp
end
end Go.Proofs.YtmfnpipmbpnfbaaGreatDoor
namespace Go.Proofs.YtmfnpipmbpnfbaaGreatDoor
open Go.ChangeShapes Go.WideShapes Go.ChangeAt Go.RowKit Go.Joins Go.WideElems
section
variable {H : Type} {enc : TypeId × Value → H} {P : Program}
def paramsRowed (P : Program) (ts : List TypeId) : Bool := ts.all fun t => P.readableRec t && decide (t < P.types.size)
theorem trodAll_stays (hl : laidOutB P = true) {W W' : World} (hb : Below W.heap.size W W') {sp : Nat → Bool} :
    ∀ {ts : List TypeId} {vs : List Value} {ds : List (DataW H)} {ps : List MemPlace}, paramsRowed P ts = true → DataW.TrodAll enc P W 0 (fun _ => true) true ts vs ds ps → (∀ p ∈ ps, p.block < W.heap.size) → (∀ p ∈ ps, sp p.block = true) →
      DataW.TrodAll enc P W' 0 sp true ts vs ds ps
  | [], [], [], _, _, h, _, _ => h
  | [], [], _ :: _, _, _, h, _, _ => h.elim
  | [], _ :: _, _, _, _, h, _, _ => h.elim
  | _ :: _, [], _, _, _, h, _, _ => h.elim
  | _ :: _, _ :: _, [], _, _, h, _, _ => h.elim
  | t :: ts, v :: vs, d :: ds, ps, hr, h, hlt, hs => by
    obtain ⟨p, q, ⟨fuel, h1⟩, h2, rfl⟩ := h
    simp only [paramsRowed, List.all_cons, Bool.and_eq_true, decide_eq_true_eq] at hr
    refine ⟨p, q, ⟨fuel, ?_⟩, trodAll_stays hl hb (by simpa [paramsRowed] using hr.2) h2 (fun x hx => hlt x (by simp [hx])) (fun x hx => hs x (by simp [hx])), rfl⟩
    exact DataW.trod_stays (kids_book hl hr.1.1) (book_sized hr.1.1) (fun h => by cases h) ⟨hr.1.2, book_self t⟩ h1 (fun x hx => hb.same (hlt x (by simp [hx]))) (fun x hx => hs x (by simp [hx]))
theorem post_of_stays {f : Func} {s : ChangeSpec} {apart fresh handsOn again : Bool} {W W' : World} {args : Array Value} {v : Value} {ds : List (DataW H)} {before : List MemPlace}
    (hl : laidOutB P = true) (hrow : paramsRowed P f.params.toList = true) (hv0 : s.vars = [])
    (hW : DataW.Whole enc P f.params.toList s.vars apart W args.toList ds [] before)
    (hres : ∀ (b : Nat) (sp : Nat → Bool) (hd : Bool), DataW.TrodAll enc P W' b sp hd f.resultTypes.toList (v.resultList f.resultTypes.size) (s.fn H (ds ++ [])).results [])
    (hargs : (s.fn H (ds ++ [])).args = ds) (hvars : (s.fn H (ds ++ [])).vars = [])
    (hb : Below W.heap.size W W')
    (hok : ∀ (j : Nat) (t : TypeId) (r : Value), f.resultTypes[j]? = some t → (v.resultList f.resultTypes.size)[j]? = some r → Value.okWide P W' .any 0 t r) :
    s.post enc P f apart fresh handsOn again W args v W' := by
  have hlt : ∀ p ∈ before, p.block < W.heap.size := fun p hp => hW.lt p hp
  have hW' := hW
  obtain ⟨pa, pv, hA, hV, hps, -, -⟩ := hW
  rw [hv0] at hV
  obtain rfl : pv = [] := hV
  rw [List.append_nil] at hps
  subst hps
  refine post_of_below (pa := before) (pv := []) hW' hres (fun sp hsp => ?_) (fun sp _ => ?_) (by simp) hb hok
  · rw [hargs]
    exact trodAll_stays hl hb hrow hA hlt hsp
  · rw [hv0, hvars]
    exact rfl
end
end Go.Proofs.YtmfnpipmbpnfbaaGreatDoor
