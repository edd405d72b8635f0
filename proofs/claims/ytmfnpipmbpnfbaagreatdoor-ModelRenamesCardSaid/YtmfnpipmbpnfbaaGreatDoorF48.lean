/- The program's Rename, where the order is one. -/
import Derived.Test.YtmfnpipmbpnfbaaGreatDoorF47
import Derived.Test.YtmfnpipmbpnfbaaGreatDoorF44
import Derived.Test.YtmfnpipmbpnfbaaGreatDoorF45

set_option maxRecDepth 100000
set_option maxHeartbeats 40000000
namespace Go.Proofs.YtmfnpipmbpnfbaaGreatDoor
open Go.RowKit
theorem chg_ren (g1 g2 n : Nat) (tg : Nat → StV) (w : World) (hn : n ≤ 1000) (hm : ∀ i, i < n → (tg i).n ≤ 1000) (hbn : ∀ i j, i < n → j < (tg i).n → 0 < ((tg i).ch j).n ∧ ((tg i).ch j).n ≤ 1000)
    (HCL : Hid (∀ ix, ix < n → ∀ wx, Below w.heap.size w wx → Calls Tryz.prog 75 #[.int .i64 (ix : Int), .pointer (some ⟨g1, 0, none⟩), .pointer (some ⟨g2, 0, none⟩)] wx (RetT (fun _ => True) (tg ix) wx))) :
    Calls Tryz.prog 61 #[.int .i64 (n : Int), .func (.func 75) #[] #[.pointer (some ⟨g1, 0, none⟩), .pointer (some ⟨g2, 0, none⟩)]] w (RetNw n tg w) :=
  chg_new 75 n #[.pointer (some ⟨g1, 0, none⟩), .pointer (some ⟨g2, 0, none⟩)] (enters_of Tryz.func75 (by kernel_rfl) rfl) tg w hn hm hbn (Lib.hid HCL.out)
theorem R3.at {w : World} {g T n i : Nat} {p q r : Nat → Value} (h : R3 w g T n p q r) (hi : i < n) : w.cell? ⟨g, i * 3, none⟩ = some (p i) ∧ w.cell? ⟨g, i * 3 + 1, none⟩ = some (q i) ∧ w.cell? ⟨g, i * 3 + 2, none⟩ = some (r i) := by
  obtain ⟨b, off, e, -, -, hc⟩ := R3.rows (P := fun _ => True) h trivial (by omega)
  obtain ⟨rfl, rfl⟩ : g = b ∧ 0 = off := by
    have := Option.some.inj e
    injection this with h1 h2 h3
    exact ⟨h1, h2⟩
  have := hc i hi
  rw [Nat.zero_add] at this
  exact this
def Fine (n : Nat) (nm : Nat → Int) (h : ChV) : Prop := h.n ≤ 8 ∧ (∀ q, q < h.n → 0 ≤ h.tw q ∧ (h.tw q).toNat < n) ∧ ∀ a b, a < h.n → b < h.n → nm (h.tw a).toNat = nm (h.tw b).toNat → a = b
theorem fine_of {n : Nat} {f : Nat → Int} {st st5 : Nat → StV} (hM : moB n st = true) (hp : ∀ i, i < n → perB f n i = true) (hf : ∀ i, i < n → 0 ≤ f i ∧ (f i).toNat < n) (hl : ∀ i, i < n → StL (st5 i) (st (f i).toNat)) : ∀ k j, k < n → j < (st5 k).n → Fine n (nmF f n) ((st5 k).ch j) := fun k j hk hj => by
  have h1 := hl k hk
  have hj' : j < (st (f k).toNat).n := by have := h1.2.2.1; omega
  obtain ⟨-, -, e3, e4⟩ := h1.2.2.2 j hj'
  have hb := chB_bs (stB_ch (moB_st hM (hf k hk).2) hj')
  obtain ⟨hi, hr⟩ := bs_inc hb
  have h8 := (bsB_n hb).2
  have hr' : ∀ q, q < ((st5 k).ch j).n → 0 ≤ ((st5 k).ch j).tw q ∧ (((st5 k).ch j).tw q).toNat < n := fun q hq => by
    rw [(e4 q (by omega)).1]
    exact hr q (by omega)
  refine ⟨by omega, hr', fun a b ha hb e => ?_⟩
  have h2 := nm_inj hp (hr' a ha).2 (hr' b hb).2 e
  have h3 := (hr' a ha).1
  have h4 := (hr' b hb).1
  have h5 : ((st5 k).ch j).tw a = ((st5 k).ch j).tw b := by omega
  rw [(e4 a (by omega)).1, (e4 b (by omega)).1] at h5
  exact hi.inj (by omega) (by omega) h5
theorem mren_ok (A B : Option Addr) (n c d : Nat) (st : Nat → StV) (f : Nat → Int) (w : World) (hM : moB n st = true) (hp : ∀ i, i < n → perB f n i = true) (hA : Lst w A n st) (hB : Lin w B n f) (HV : Hid (CV 20 #[.agg #[.slice A n c]] (.bool true) w))
    (HS : Hid (∀ wx, Below w.heap.size w wx → Calls Tryz.prog 74 #[.slice B n d, .int .i64 (n : Int)] wx fun e w' => ∃ g, e = .returned (.tuple #[.slice (some ⟨g, 0, none⟩) n n, .bool true]) ∧ wx.heap.size ≤ g ∧ RowZ w' g n (nmF f n) ∧ Below wx.heap.size wx w')) :
    Calls Tryz.prog 37 #[.agg #[.slice A n c], .slice B n d] w (RetRn (nmF f n) n (fun i => st (f i).toNat) w) := by
  obtain ⟨a1, a2, a3⟩ := mo_small hM
  have hf : ∀ i, i < n → 0 ≤ f i ∧ (f i).toNat < n := fun i hi => by
    have := hp i hi
    simp only [perB, Bool.and_eq_true, Bool.not_eq_true', decide_eq_false_iff_not] at this
    omega
  have HF := Lib.hid hf
  have HA := Lib.hid hA
  have HBB := Lib.hid hB
  have HMO := Lib.hid hM
  have HPP := Lib.hid hp
  have HN1 : Hid (n ≤ 1000) := Lib.hid (by omega)
  have HN40 : Hid (n ≤ 40) := Lib.hid a1
  have HN2 : Hid (∀ i, i < n → (st (f i).toNat).n ≤ 1000) := Lib.hid (fun i hi => by have := a2 _ (hf i hi).2; omega)
  have HN3 : Hid (∀ i j, i < n → j < (st (f i).toNat).n → 0 < ((st (f i).toNat).ch j).n ∧ ((st (f i).toNat).ch j).n ≤ 1000) := Lib.hid (fun i j hi hj => by have := bsB_n (chB_bs (stB_ch (moB_st hM (hf i hi).2) hj)); omega)
  clear hM hf hp hA hB a1 a2 a3
  go_enter Tryz.func37, Tryz.ntmps37
  go_upto_region 1 with fail
  generalize hZ : World.alloc _ _ = Z
  have HZ : Hid (Below w.heap.size w Z ∧ B1 Z (w.heap.size) 24 (.slice A n c) ∧ B1 Z (w.heap.size + 1) 25 (.slice B n d) ∧ B1 Z (w.heap.size + 2) 24 (.slice none 0 0)) := Lib.hid (alloc_3 hZ)
  clear hZ
  have HB0 := Lib.hid HZ.out.1
  have X0 := Lib.hid HZ.out.2.1
  have X1 := Lib.hid HZ.out.2.2.1
  have X2 := Lib.hid HZ.out.2.2.2
  clear HZ
  have x0 := X0.out.out
  have x1 := X1.out.out
  go_wp2_with fail
  clear x0 x1
  (with_reducible refine (HV.out.run HB0.out).mono ?_)
  rintro e w1 ⟨rfl, hB⟩
  replace X0 := Lib.hid (X0.out.keep hB)
  replace X1 := Lib.hid (X1.out.keep hB)
  replace X2 := Lib.hid (X2.out.keep hB)
  replace HB0 := Lib.hid (HB0.out.trans (hB.mono HB0.out.size))
  clear hB
  have x0 := X0.out.out
  have x1 := X1.out.out
  go_wp2_with fail
  clear x0 x1
  (with_reducible refine (HS.out _ HB0.out).mono ?_)
  rintro e w2 ⟨gN, rfl, hgN, hZN, hB⟩
  replace X0 := Lib.hid (X0.out.keep hB)
  replace X1 := Lib.hid (X1.out.keep hB)
  replace X2 := Lib.hid (X2.out.keep hB)
  replace HB0 := Lib.hid (HB0.out.trans (hB.mono HB0.out.size))
  have HZN := Lib.hid hZN
  clear hB hZN hgN
  have x0 := X0.out.out
  have x1 := X1.out.out
  go_wp2_with fail
  clear x0 x1
  (with_reducible refine (chg_ren _ _ n (fun i => st (f i).toNat) _ HN1.out HN2.out HN3.out ?hcl).mono ?_)
  case hcl => exact Lib.hid fun ix hi wx hx => ren1_any _ _ A B n c n d st f ix wx (Lib.hid (X0.out.keep hx).mbx) (Lib.hid (X1.out.keep hx).mbx) (HA.out.keep (HB0.out.trans (hx.mono HB0.out.size))) (HBB.out.keep (HB0.out.trans (hx.mono HB0.out.size))) hi (HF.out ix hi).1 (HF.out ix hi).2
  rintro e w3 ⟨S, c5, st5, C, g, rfl, hS, hNM, hl, hB⟩
  have HG2 : Hid (w.heap.size + 2 < S) := Lib.hid (by have h2 := (X2.out).lt; omega)
  replace X2 := Lib.hid (X2.out.keep hB)
  have HL := Lib.hid hl
  have HNM := Lib.hid hNM
  have HZ3 := Lib.hid (HZN.out.keep hB)
  have HGN : Hid (gN < S) := Lib.hid (by have := HZN.out.lt; omega)
  have HB3 := Lib.hid (HB0.out.trans (hB.mono HB0.out.size))
  clear hl hNM hB X0 X1
  have HFI := Lib.hid (fine_of HMO.out HPP.out HF.out HL.out)
  have HN8 : Hid (∀ i, i < n → (st5 i).n ≤ 1000) := Lib.hid fun i hi => by rw [(HL.out i hi).2.2.1]; exact HN2.out i hi
  clear HMO HPP HF HN2 HN3 HV HS HA HBB HZN HB0
  have HNMF : Hid (∀ i q, i < n → q < (st5 i).n → g i q ≠ w3.heap.size) := Lib.hid fun i q hi hq => Nat.ne_of_lt ((HNM.out.2.1 i hi).2.2.2.1 q hq).2.2.lt
  go_upto_region 7 with fail
  generalize hY : w3.alloc _ = Y
  have hBY : Below w3.heap.size w3 Y := by rw [← hY]; exact below_alloc _ _
  have HO : Hid (B1 Y w3.heap.size 24 (.slice (some ⟨S, 0, none⟩) n c5)) := by rw [← hY]; exact Lib.hid (B1.new _ _ _)
  clear hY
  have HMY := Lib.hid (HNM.out.keep hBY)
  have HZY := Lib.hid (HZ3.out.keep hBY)
  have X2Y := Lib.hid (X2.out.keep hBY)
  have HBY := Lib.hid (HB3.out.trans (hBY.mono HB3.out.size))
  have HSY : Hid (S ≤ Y.heap.size) := Lib.hid (Nat.le_of_lt (R3.lt HMY.out.1))
  clear hBY HNM HZ3 X2 HB3
  obtain ⟨go, hgo⟩ : ∃ go, w3.heap.size = go := ⟨_, rfl⟩
  rw [hgo] at HO HNMF ⊢
  clear hgo
  have o0 := HO.out.out
  go_wp2_with fail
  clear o0
  generalize hnm : nmF f n = nm at *
  have HNMEQ := Lib.hid hnm
  clear hnm
  go_loopw [35] (fun i wr => ∃ k : Nat, Hid (k ≤ n) ∧ i = .int .i64 (k : Int) ∧ (∃ st', Hid (NewM wr S n st' C g) ∧ Hid (Prg nm st5 st' n k 0)) ∧ Hid (Below S Y wr) ∧ Hid (B1 wr go 24 (.slice (some ⟨S, 0, none⟩) n c5))) (fun i _ => n - (intOf i).toNat)
  case atStart => exact ⟨0, Nat.zero_le _, rfl, ⟨st5, HMY, Lib.hid (Prg.zero _ _ _)⟩, Lib.hid (Below.refl _ _), HO⟩
  case round =>
    clear HMY HO
    obtain ⟨k, hk, rfl, ⟨st', hM, hP⟩, hB, hO⟩ := hrel
    by_cases hlt : k < n
    · have hlt' : (k : Int) < (n : Int) := by omega
      obtain ⟨s0, s1, s2⟩ := R3.at hM.out.1 hlt
      have eA := (hM.out.2.1 k hlt).1
      have en := (hP.out.1 k hlt).2.2
      rw [eA, en] at s2
      generalize (st' k).ow = ow at s0
      generalize (st' k).mrk = mrk at s1
      generalize (st' k).c = cc at s2
      obtain ⟨m, hm⟩ : ∃ m, (st5 k).n = m := ⟨_, rfl⟩
      have HM5 := Lib.hid hm
      have hm1 : m ≤ 1000 := by rw [← hm]; exact HN8.out k hlt
      rw [hm] at s2
      clear eA en hm
      have hn1 : n ≤ 1000 := HN1.out
      go_upto_region 10 with fail
      generalize hV : wr.alloc _ = V
      have hBV : Below wr.heap.size wr V := by rw [← hV]; exact below_alloc _ _
      have HBW : Hid (Bw V wr.heap.size 53 (.int .i64 ow) (.int .i64 mrk) (.slice (some ⟨C k, 0, none⟩) m cc)) := by rw [← hV]; exact Lib.hid (Bw.new _ _ _ _ _)
      have HMV := Lib.hid (hM.out.keep hBV)
      have HOV := Lib.hid (hO.out.keep hBV)
      have HBV := Lib.hid (hB.out.trans (hBV.mono (Nat.le_of_lt (R3.lt hM.out.1))))
      clear hV hBV hM hO hB s0 s1 s2
      obtain ⟨b0, b1, b2⟩ := HBW.out.out
      obtain ⟨gs, hgs⟩ : ∃ gs, wr.heap.size = gs := ⟨_, rfl⟩
      rw [hgs] at b0 b1 b2 ⊢
      clear HBW hgs
      go_wp2_with fail
      clear b0 b1 b2
      go_loopw [42] (fun i w2 => ∃ j : Nat, Hid (j ≤ m) ∧ i = .int .i64 (j : Int) ∧ (∃ st', Hid (NewM w2 S n st' C g) ∧ Hid (Prg nm st5 st' n k j)) ∧ Hid (Below S Y w2) ∧ Hid (B1 w2 go 24 (.slice (some ⟨S, 0, none⟩) n c5))) (fun i _ => m - (intOf i).toNat)
      case atStart => exact ⟨0, Nat.zero_le _, rfl, ⟨st', HMV, hP⟩, HBV, HOV⟩
      case round =>
        clear HMV HBV HOV hP
        clear st'
        obtain ⟨j, hj, rfl, ⟨st', hM, hP⟩, hB, hO⟩ := hrel
        by_cases hltj : j < m
        · have hltj' : (j : Int) < (m : Int) := by omega
          have hj5 : j < (st5 k).n := by rw [HM5.out]; exact hltj
          have hjp : j < (st' k).n := by rw [(hP.out.1 k hlt).2.2]; exact hj5
          obtain ⟨s0, s1, s2⟩ := R3.at (hM.out.2.1 k hlt).2.2.1 hjp
          have hBk := ((hM.out.2.1 k hlt).2.2.2.1 j hjp).2.2
          have eA := ((hM.out.2.1 k hlt).2.2.2.1 j hjp).1
          have hfine := HFI.out k j hlt hj5
          rw [← hP.out.2.2 k j (by omega)] at hfine
          rw [eA] at s2
          have HRR : Hid (∀ wx, Below wr.heap.size wr wx → Calls Tryz.prog 76 #[.slice (some ⟨g k j, 0, none⟩) ((st' k).ch j).n ((st' k).ch j).c, .slice (some ⟨gN, 0, none⟩) n n] wx fun e w' => e = .returned (.tuple #[]) ∧ ∃ st'', NewM w' S n st'' C g ∧ Prg nm st5 st'' n k (j + 1) ∧ Below S Y w' ∧ B1 w' go 24 (.slice (some ⟨S, 0, none⟩) n c5)) := Lib.hid fun wx hx => by
            have hZx : RowZ wx gN n nm := HZY.out.block ((hB.out.trans (hx.mono (Nat.le_of_lt (R3.lt hM.out.1)))).block gN HGN.out)
            refine (rename_any (g k j) _ gN n ((st' k).ch j) nm wx (hBk.keep hx) hfine.1 (fun e => by
              have h1 := HGN.out
              have h2 := (hM.out.2.1 k hlt).2.1
              have h3 := ((hM.out.2.1 k hlt).2.2.2.1 j hjp).2.1
              omega) HN40.out hZx hfine.2.1 hfine.2.2).mono ?_
            rintro e w' ⟨rfl, hR⟩
            exact ⟨rfl, ren_round (hM.out.keep hx) hP.out (hB.out.trans (hx.mono (Nat.le_of_lt (R3.lt hM.out.1)))) (hO.out.keep hx) HNMF.out hlt hj5 HSY.out hR⟩
          clear hBk eA hfine
          generalize ((st' k).ch j).t = ht at s0
          generalize ((st' k).ch j).l = hl at s1
          generalize ((st' k).ch j).n = hn2 at s2 HRR
          generalize ((st' k).ch j).c = hc2 at s2 HRR
          clear hM hP hB hO
          go_upto_region 13 with fail
          clear s0 s1 s2
          generalize hV : wr.alloc _ = V2
          have hBV : Below wr.heap.size wr V2 := by rw [← hV]; exact below_alloc _ _
          have HBW : Hid (Bw V2 wr.heap.size 65 (.int .i64 ht) (.int .i64 hl) (.slice (some ⟨g k j, 0, none⟩) hn2 hc2)) := by rw [← hV]; exact Lib.hid (Bw.new _ _ _ _ _)
          have HRR2 := Lib.hid (HRR.out V2 hBV)
          clear hV hBV HRR
          obtain ⟨b0, b1, b2⟩ := HBW.out.out
          clear HBW
          generalize wr.heap.size = gs2 at b0 b1 b2 ⊢
          go_wp2_with fail
          clear b0 b1 b2
          (with_reducible refine HRR2.out.mono ?_)
          rintro e w4 ⟨rfl, st'', q1, q2, q3, q4⟩
          have Q1 := Lib.hid q1
          have Q2 := Lib.hid q2
          have Q3 := Lib.hid q3
          have Q4 := Lib.hid q4
          clear q1 q2 q3 q4 HRR2
          go_wp2_with fail
          exact ⟨⟨j + 1, Lib.hid (by omega), by rw [show ((j + 1 : Nat) : Int) = (j : Int) + 1 from by omega], ⟨st'', Q1, Q2⟩, Q3, Q4⟩, by simp [intOf]; omega⟩
        · have hje : j = m := by have := hj.out; omega
          have hltj' : ¬ (j : Int) < (m : Int) := by omega
          subst hje
          have HP2 : Hid (Prg nm st5 st' n (k + 1) 0) := Lib.hid (Prg.next (by rw [HM5.out]; exact hP.out))
          clear hP
          go_wp2_with fail
          exact ⟨⟨k + 1, Lib.hid (by omega), by rw [show ((k + 1 : Nat) : Int) = (k : Int) + 1 from by omega], ⟨st', hM, HP2⟩, hB, hO⟩, by simp [intOf]; omega⟩
    · have hke : k = n := by have := hk.out; omega
      have hlt' : ¬ (k : Int) < (n : Int) := by omega
      subst hke
      have o0 := hO.out.out
      have hr : B1 wr (w.heap.size + 2) 24 (.slice none 0 0) := X2Y.out.block (hB.out.block _ HG2.out)
      have hBr : Below w.heap.size w wr := HBY.out.trans (hB.out.mono (by have h1 := HG2.out; omega))
      have HPM := Lib.hid (putM (c := c5) hBr (show w.heap.size ≤ w.heap.size + 2 by omega) HG2.out hr (hM.out.lst (Nat.le_refl S)))
      have r0 := hr.out
      have f0 := hr.frz
      have hrl := hr.lt
      have HRS := Lib.hid (hP.out.done)
      clear hr hBr
      generalize w.heap.size + 2 = gr at *
      go_wp2_with fail
      generalize World.setCell _ _ _ = V at *
      have c0 := HPM.out.1.out
      exact bodyPost_ret (v := .tuple #[.agg #[.slice (some ⟨S, 0, none⟩) k c5], .int .i64 0]) (by simp [results, Tryz.results37, go_sem, c0]) rfl ⟨_, _, st', rfl, HPM.out.2.1, fun i hi => by rw [HNMEQ.out]; exact (HRS.out i hi).like (HL.out i hi), HPM.out.2.2⟩
theorem inv_all (B : Option Addr) (n m d : Nat) (f : Nat → Int) (w : World) (hn : n ≤ 40) (hn1 : 1 ≤ n) (hm : m ≤ 1000) (hB : Lin w B m f) : Calls Tryz.prog 74 #[.slice B m d, .int .i64 (n : Int)] w (InvPost n m f w) := by
  by_cases e : m = n
  · subst e
    exact inverse_same B m d f w hn hn1 hB
  · exact inverse_len B n m d f w hn hm e
theorem ordB_open {n m : Nat} {f : Nat → Int} (h : ordB n m f = true) : m = n ∧ ∀ i, i < n → perB f n i = true := by
  unfold ordB at h
  obtain ⟨h1, h2⟩ := Bool.and_eq_true_iff.1 h
  have e : m = n := by
    have := eq_of_beq h1
    omega
  subst e
  exact ⟨rfl, fun i hi => allB_get h2 hi⟩
def RenAns (n m : Nat) (st : Nat → StV) (f : Nat → Int) (w : World) (e : Ending) (w' : World) : Prop :=
  (moB n st = true ∧ ordB n m f = true ∧ RetRn (nmF f n) n (fun i => st (f i).toNat) w e w') ∨
  ((moB n st && ordB n m f) = false ∧ e = .returned (.tuple #[.agg #[.slice none 0 0], .int .i64 (if moB n st then 6 else 1)]) ∧ Below w.heap.size w w')
theorem mren_any (A B : Option Addr) (n c m d : Nat) (st : Nat → StV) (f : Nat → Int) (w : World) (hm : m ≤ 1000) (hA : Lst w A n st) (hB : Lin w B m f) (HV : CV 20 #[.agg #[.slice A n c]] (.bool (moB n st)) w) :
    Calls Tryz.prog 37 #[.agg #[.slice A n c], .slice B m d] w (RenAns n m st f w) := by
  cases hM : moB n st with
  | false =>
    rw [hM] at HV
    refine (mren_no0 A B n c m d w HV).mono fun e w' h => .inr ⟨by rw [hM]; rfl, ?_, h.2⟩
    rw [hM]; exact h.1
  | true =>
    rw [hM] at HV
    have h40 := moB_n hM
    cases hO : ordB n m f with
    | false =>
      refine (mren_no1 A B n c m d w HV (Lib.hid fun wx hx => (inv_all B n m d f wx h40.2 h40.1 hm (hB.keep hx)).mono fun e w' h => ?_)).mono fun e w' h => .inr ⟨by rw [hM, hO]; rfl, ?_, h.2⟩
      · rcases h with ⟨h1, -⟩ | ⟨-, h2, h3⟩
        · rw [hO] at h1; cases h1
        · exact ⟨h2, h3⟩
      · rw [hM]; exact h.1
    | true =>
      obtain ⟨rfl, hp⟩ := ordB_open hO
      refine (mren_ok A B m c d st f w hM hp hA hB HV (Lib.hid fun wx hx => (inv_all B m m d f wx h40.2 h40.1 hm (hB.keep hx)).mono fun e w' h => ?_)).mono fun e w' h => .inl ⟨hM, hO, h⟩
      rcases h with ⟨-, g, h1, h2, h3, h4⟩ | ⟨h1, -⟩
      · exact ⟨g, h1, h2, h3, h4⟩
      · rw [hO] at h1; cases h1
theorem putLr {w wx : World} {A : Option Addr} {n c g hi : Nat} {st : Nat → StV} {v : Value} (hB : Below w.heap.size w wx) (hg : w.heap.size ≤ g) (hlo : g < hi) (hb : B1 wx g 24 v) (hL : LstP (fun b => b < w.heap.size ∨ hi ≤ b) wx A n st) :
    B1 (wx.setCell ⟨g, 0, none⟩ (.slice A n c)) g 24 (.slice A n c) ∧ Lst (wx.setCell ⟨g, 0, none⟩ (.slice A n c)) A n st ∧ Below w.heap.size w (wx.setCell ⟨g, 0, none⟩ (.slice A n c)) :=
  ⟨hb.put _, (hL.stay (w' := wx.setCell ⟨g, 0, none⟩ (.slice A n c)) (by simp [World.setCell]) fun b _ hp => Below.heap_setCell _ ⟨g, 0, none⟩ _ b (by have hp' : b < w.heap.size ∨ hi ≤ b := hp; show b ≠ g; omega)).to, hB.setCell (p := ⟨g, 0, none⟩) hg _⟩
theorem rren_no0 (A B : Option Addr) (n c m d : Nat) (w : World) (HV : Hid (CV 21 #[.agg #[.slice A n c]] (.bool false) w)) :
    Calls Tryz.prog 36 #[.agg #[.slice A n c], .slice B m d] w fun e w' => e = .returned (.tuple #[.agg #[.slice none 0 0], .int .i64 1]) ∧ Below w.heap.size w w' := by
  go_enter Tryz.func36, Tryz.ntmps36
  go_upto_region 1 with fail
  generalize hZ : World.alloc _ _ = Z
  have HZ : Hid (Below w.heap.size w Z ∧ B1 Z (w.heap.size) 24 (.slice A n c) ∧ B1 Z (w.heap.size + 1) 24 (.slice none 0 0)) := Lib.hid (alloc_2r hZ)
  clear hZ
  have HB0 := Lib.hid HZ.out.1
  have X0 := Lib.hid HZ.out.2.1
  have X1 := Lib.hid HZ.out.2.2
  clear HZ
  have x0 := X0.out.out
  go_wp2_with fail
  clear x0
  (with_reducible refine (HV.out.run HB0.out).mono ?_)
  rintro e w1 ⟨rfl, hB⟩
  replace X0 := Lib.hid (X0.out.keep hB)
  replace X1 := Lib.hid (X1.out.keep hB)
  replace HB0 := Lib.hid (HB0.out.trans (hB.mono HB0.out.size))
  clear hB
  have r0 := X1.out.out
  have f0 := X1.out.frz
  have hl := X1.out.lt
  have HP := Lib.hid (X1.out.put (.slice none 0 0))
  have HQ := Lib.hid (HB0.out.setCell (p := ⟨w.heap.size + 1, 0, none⟩) (Nat.le_add_right _ _) (.slice none 0 0))
  have x0 := X0.out.out
  generalize w.heap.size + 1 = gr at *
  go_wp2_with fail
  generalize World.setCell _ _ _ = V at *
  have c0 := HP.out.out
  exact bodyPost_ret (v := .tuple #[.agg #[.slice none 0 0], .int .i64 1]) (by simp [results, Tryz.results36, go_sem, c0]) rfl ⟨rfl, HQ.out⟩
theorem rren_no1 (A B : Option Addr) (n c m d : Nat) (w : World) (HV : Hid (CV 21 #[.agg #[.slice A n c]] (.bool true) w)) (HS : Hid (CV 72 #[.agg #[.slice A n c], .slice B m d] (.bool false) w)) :
    Calls Tryz.prog 36 #[.agg #[.slice A n c], .slice B m d] w fun e w' => e = .returned (.tuple #[.agg #[.slice none 0 0], .int .i64 6]) ∧ Below w.heap.size w w' := by
  go_enter Tryz.func36, Tryz.ntmps36
  go_upto_region 1 with fail
  generalize hZ : World.alloc _ _ = Z
  have HZ : Hid (Below w.heap.size w Z ∧ B1 Z (w.heap.size) 24 (.slice A n c) ∧ B1 Z (w.heap.size + 1) 24 (.slice none 0 0)) := Lib.hid (alloc_2r hZ)
  clear hZ
  have HB0 := Lib.hid HZ.out.1
  have X0 := Lib.hid HZ.out.2.1
  have X1 := Lib.hid HZ.out.2.2
  clear HZ
  have x0 := X0.out.out
  go_wp2_with fail
  clear x0
  (with_reducible refine (HV.out.run HB0.out).mono ?_)
  rintro e w1 ⟨rfl, hB⟩
  replace X0 := Lib.hid (X0.out.keep hB)
  replace X1 := Lib.hid (X1.out.keep hB)
  replace HB0 := Lib.hid (HB0.out.trans (hB.mono HB0.out.size))
  clear hB
  have x0 := X0.out.out
  go_wp2_with fail
  clear x0
  (with_reducible refine (HS.out.run HB0.out).mono ?_)
  rintro e w2 ⟨rfl, hB⟩
  replace X0 := Lib.hid (X0.out.keep hB)
  replace X1 := Lib.hid (X1.out.keep hB)
  replace HB0 := Lib.hid (HB0.out.trans (hB.mono HB0.out.size))
  clear hB
  have r0 := X1.out.out
  have f0 := X1.out.frz
  have hl := X1.out.lt
  have HP := Lib.hid (X1.out.put (.slice none 0 0))
  have HQ := Lib.hid (HB0.out.setCell (p := ⟨w.heap.size + 1, 0, none⟩) (Nat.le_add_right _ _) (.slice none 0 0))
  have x0 := X0.out.out
  generalize w.heap.size + 1 = gr at *
  go_wp2_with fail
  generalize World.setCell _ _ _ = V at *
  have c0 := HP.out.out
  exact bodyPost_ret (v := .tuple #[.agg #[.slice none 0 0], .int .i64 6]) (by simp [results, Tryz.results36, go_sem, c0]) rfl ⟨rfl, HQ.out⟩
theorem rren_ok (A B : Option Addr) (n c d : Nat) (st : Nat → StV) (f : Nat → Int) (w : World) (hM : moB n st = true) (hp : ∀ i, i < n → perB f n i = true) (hA : Lst w A n st) (hB : Lin w B n f) (HV : Hid (CV 21 #[.agg #[.slice A n c]] (.bool true) w)) (HS : Hid (CV 72 #[.agg #[.slice A n c], .slice B n d] (.bool true) w)) :
    Calls Tryz.prog 36 #[.agg #[.slice A n c], .slice B n d] w (RetRn (nmF f n) n (fun i => st (f i).toNat) w) := by
  have HM := Lib.hid hM
  have HPP := Lib.hid hp
  have HA := Lib.hid hA
  have HBL := Lib.hid hB
  clear hM hp hA hB
  go_enter Tryz.func36, Tryz.ntmps36
  go_upto_region 1 with fail
  generalize hZ : World.alloc _ _ = Z
  have HZ : Hid (Below w.heap.size w Z ∧ B1 Z (w.heap.size) 24 (.slice A n c) ∧ B1 Z (w.heap.size + 1) 24 (.slice none 0 0)) := Lib.hid (alloc_2r hZ)
  clear hZ
  have HB0 := Lib.hid HZ.out.1
  have X0 := Lib.hid HZ.out.2.1
  have X1 := Lib.hid HZ.out.2.2
  clear HZ
  have x0 := X0.out.out
  go_wp2_with fail
  clear x0
  (with_reducible refine (HV.out.run HB0.out).mono ?_)
  rintro e w1 ⟨rfl, hB⟩
  replace X0 := Lib.hid (X0.out.keep hB)
  replace X1 := Lib.hid (X1.out.keep hB)
  replace HB0 := Lib.hid (HB0.out.trans (hB.mono HB0.out.size))
  clear hB
  have x0 := X0.out.out
  go_wp2_with fail
  clear x0
  (with_reducible refine (HS.out.run HB0.out).mono ?_)
  rintro e w2 ⟨rfl, hB⟩
  replace X0 := Lib.hid (X0.out.keep hB)
  replace X1 := Lib.hid (X1.out.keep hB)
  replace HB0 := Lib.hid (HB0.out.trans (hB.mono HB0.out.size))
  clear hB
  have x0 := X0.out.out
  go_wp2_with fail
  clear x0
  (with_reducible refine (rrenamed_any A B n c d st f _ HM.out HPP.out (HA.out.keep HB0.out) (HBL.out.keep HB0.out)).mono ?_)
  rintro e w3 ⟨A5, c5, st5, rfl, hL, hl, hB⟩
  have hlo := X1.out.lt
  have HLL := Lib.hid hl
  have HPM := Lib.hid (putLr (c := c5) (HB0.out.trans (hB.mono HB0.out.size)) (show w.heap.size ≤ w.heap.size + 1 by omega) hlo (X1.out.keep hB) (hL.imp fun b _ hp => .inr hp))
  have hr := X1.out.keep hB
  have r0 := hr.out
  have f0 := hr.frz
  have hrl := hr.lt
  clear hr hL hl hB hlo X0 X1
  generalize w.heap.size + 1 = gr at *
  go_wp2_with fail
  generalize World.setCell _ _ _ = V at *
  have c0 := HPM.out.1.out
  exact bodyPost_ret (v := .tuple #[.agg #[.slice A5 n c5], .int .i64 0]) (by simp [results, Tryz.results36, go_sem, c0]) rfl ⟨_, _, st5, rfl, HPM.out.2.1, HLL.out, HPM.out.2.2⟩
theorem rren_any (A B : Option Addr) (n c m d : Nat) (st : Nat → StV) (f : Nat → Int) (w : World) (hn : n ≤ 1000000) (hm : m ≤ 1000) (hA : Lst w A n st) (hB : Lin w B m f) (HV : CV 21 #[.agg #[.slice A n c]] (.bool (moB n st)) w) :
    Calls Tryz.prog 36 #[.agg #[.slice A n c], .slice B m d] w (RenAns n m st f w) := by
  have HS : CV 72 #[.agg #[.slice A n c], .slice B m d] (.bool (ordB n m f)) w := fun wx hx => rorder_any A B n c m d f wx hn (by omega) (hB.keep hx)
  cases hM : moB n st with
  | false =>
    rw [hM] at HV
    refine (rren_no0 A B n c m d w HV).mono fun e w' h => .inr ⟨by rw [hM]; rfl, ?_, h.2⟩
    rw [hM]; exact h.1
  | true =>
    rw [hM] at HV
    cases hO : ordB n m f with
    | false =>
      rw [hO] at HS
      refine (rren_no1 A B n c m d w HV HS).mono fun e w' h => .inr ⟨by rw [hM, hO]; rfl, ?_, h.2⟩
      rw [hM]; exact h.1
    | true =>
      rw [hO] at HS
      obtain ⟨rfl, hp⟩ := ordB_open hO
      exact (rren_ok A B m c d st f w hM hp hA hB HV HS).mono fun e w' h => .inl ⟨hM, hO, h⟩
end Go.Proofs.YtmfnpipmbpnfbaaGreatDoor
