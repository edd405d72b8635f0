/- The text of a model, by the program. -/
import Derived.Test.YtmfnpipmbpnfbaaGreatDoorF32
import Derived.Test.YtmfnpipmbpnfbaaGreatDoorF33
import Derived.StillTailTactics

set_option maxRecDepth 100000
set_option maxHeartbeats 40000000
namespace Go.Proofs.YtmfnpipmbpnfbaaGreatDoor
open Go.RowKit
theorem data_len (s : ByteArray) : s.data.toList.length = s.size := Array.length_toList
theorem AtB.is {B b : Nat} {bs : List Value} {w : World} (h : AtB B b bs w) : IsB B b bs w := Or.inr h
theorem brS_len {tw ct cl : Nat → Int} {j : Nat} (h : 0 ≤ tw j ∧ tw j < 40 ∧ vld (ct j) (cl j) = true) : (brS tw ct cl j).data.toList.length ≤ 46 := by
  have h1 := dec_len3 (u := (tw j).toNat) (by omega)
  have h2 := textN_len h.2.2
  unfold brS
  simp only [ByteArray.data_append, Array.toList_append, List.length_append, List.length_cons, List.length_nil]
  omega
theorem lens_le {l : List (List UInt8)} {k : Nat} (h : ∀ x ∈ l, x.length ≤ k) : Lib.lens l ≤ k * l.length := by
  induction l with
  | nil => simp [Lib.lens]
  | cons x r ih =>
    have h1 := h x (by simp)
    have h2 := ih fun y hy => h y (by simp [hy])
    have h3 : Lib.lens (x :: r) = x.length + Lib.lens r := by simp [Lib.lens]
    rw [h3, List.length_cons, Nat.mul_add]
    omega
theorem join_le {n : Nat} {tw ct cl : Nat → Int} (hn1 : 1 ≤ n) (hn : n ≤ 8) (h : ∀ j, j < n → 0 ≤ tw j ∧ tw j < 40 ∧ vld (ct j) (cl j) = true) : (Lib.join ((List.range n).map fun j => (brS tw ct cl j).data.toList) [44]).length ≤ 1000 := by
  have hl : ∀ x ∈ (List.range n).map (fun j => (brS tw ct cl j).data.toList), x.length ≤ 46 := fun x hx => by
    obtain ⟨j, hj, rfl⟩ := List.mem_map.1 hx
    exact brS_len (h j (List.mem_range.1 hj))
  have hlen : ((List.range n).map fun j => (brS tw ct cl j).data.toList).length = n := by simp
  generalize (List.range n).map (fun j => (brS tw ct cl j).data.toList) = l at *
  cases l with
  | nil => simp at hlen; omega
  | cons x r =>
    rw [Lib.join_length]
    have := lens_le hl
    simp only [List.length_cons, List.length_nil] at *
    omega
theorem chB_brs {ns : Nat} {h : ChV} (H : chB ns h = true) (hns : ns ≤ 40) : ∀ j, j < h.n → 0 ≤ h.tw j ∧ h.tw j < 40 ∧ vld (h.ct j) (h.cl j) = true := fun j hj => by
  have := brB_open (bsB_br (chB_bs H) hj)
  exact ⟨this.1, by omega, this.2.2.1⟩
theorem pchoice_any (h : ChV) (ns : Nat) (w : World) (H : chB ns h = true) (hns : ns ≤ 40) (hA : Lbr w h.A h.n h.tw h.ct h.cl) (htab : Tab w) :
    Calls Tryz.prog 84 #[.agg #[.int .i64 h.t, .int .i64 h.l, .slice h.A h.n h.c]] w fun e w' => e = .returned (.string (chS h)) ∧ Below w.heap.size w w' := by
  have hb := chB_brs H hns
  have hn := bsB_n (chB_bs H)
  have hv := chB_vld H
  obtain ⟨t, l, A, n, c, tw, ct, cl⟩ := h
  simp only at *
  have hJ := join_le hn.1 hn.2 hb
  refine pch_any t l A n c tw ct cl w hn.1 hn.2 hv hb hA htab (Lib.hid ?_) (Lib.hid fun wx g hS => ?_)
  · show (Lib.join _ _).toArray.size ≤ 1000
    rw [List.size_toArray]
    exact hJ
  · have hl : ((List.range n).map fun j => brS tw ct cl j).length = n := by simp
    have := Tryz.strings_Join g 0 n ((List.range n).map fun j => brS tw ct cl j) ⟨#[44]⟩ wx (fun j x hx => by
      rw [List.getElem?_map] at hx
      by_cases hj : j < n
      · rw [List.getElem?_range hj] at hx
        injection hx with hx
        subst hx
        rw [Nat.zero_add]
        exact hS.cellAt hj
      · rw [List.getElem?_eq_none (by simp; omega)] at hx
        cases hx) hS.lt (by omega) (by omega) (by rw [List.map_map]; exact Nat.le_trans hJ (by omega))
    rw [hl, List.map_map] at this
    exact this
def hdS (s : StV) : ByteArray := ((((⟨#[115, 116, 97, 116, 101, 32]⟩ : ByteArray) ++ ⟨(Lib.decDigits s.ow.toNat).toArray⟩) ++ ⟨#[32]⟩) ++ ⟨(Lib.decDigits s.mrk.toNat).toArray⟩) ++ ⟨#[10]⟩
def chsT (ch : Nat → ChV) : Nat → List UInt8
  | 0 => []
  | j + 1 => chsT ch j ++ (chS (ch j)).data.toList
def stsT (st : Nat → StV) : Nat → List UInt8
  | 0 => []
  | k + 1 => stsT st k ++ ((hdS (st k)).data.toList ++ chsT (st k).ch (st k).n)
def mhS (n : Nat) : ByteArray := ((⟨#[109, 111, 100, 101, 108, 32]⟩ : ByteArray) ++ ⟨(Lib.decDigits n).toArray⟩) ++ ⟨#[10]⟩
def moT (n : Nat) (st : Nat → StV) : List UInt8 := (mhS n).data.toList ++ stsT st n
theorem chS_len {ns : Nat} {h : ChV} (H : chB ns h = true) (hns : ns ≤ 40) : (chS h).size ≤ 1100 := by
  have hJ := join_le (bsB_n (chB_bs H)).1 (bsB_n (chB_bs H)).2 (chB_brs H hns)
  have h2 := textN_len (chB_vld H)
  unfold chS
  simp only [ByteArray.size_append]
  show 7 + (textN h.t h.l).toArray.size + 1 + (Lib.join _ _).toArray.size + 1 ≤ 1100
  rw [List.size_toArray, List.size_toArray]
  omega
theorem chsT_len {ns m : Nat} {ch : Nat → ChV} (H : ∀ j, j < m → chB ns (ch j) = true) (hns : ns ≤ 40) : ∀ j, j ≤ m → (chsT ch j).length ≤ 1100 * j := by
  intro j
  induction j with
  | zero => intro _; simp [chsT]
  | succ j ih =>
    intro hj
    have h1 := ih (by omega)
    have h2 := chS_len (H j (by omega)) hns
    have h3 := data_len (chS (ch j))
    unfold chsT
    rw [List.length_append, h3]
    omega
theorem hdS_len {ns : Nat} {s : StV} (H : stB ns s = true) : (hdS s).size ≤ 20 := by
  obtain ⟨-, -, h3, h4, h5, h6⟩ := stB_n H
  have a := dec_len3 (u := s.ow.toNat) (by omega)
  have b := dec_len3 (u := s.mrk.toNat) (by omega)
  unfold hdS
  simp only [ByteArray.size_append]
  show 6 + (Lib.decDigits s.ow.toNat).toArray.size + 1 + (Lib.decDigits s.mrk.toNat).toArray.size + 1 ≤ 20
  rw [List.size_toArray, List.size_toArray]
  omega
theorem stsT_len {n : Nat} {st : Nat → StV} (H : moB n st = true) : ∀ k, k ≤ n → (stsT st k).length ≤ 10000 * k := by
  have hn := (moB_n H).2
  intro k
  induction k with
  | zero => intro _; simp [stsT]
  | succ k ih =>
    intro hk
    have h1 := ih (by omega)
    have hs := moB_st H (show k < n by omega)
    have h2 := hdS_len hs
    have h3 := data_len (hdS (st k))
    have h4 := chsT_len (ch := (st k).ch) (fun j hj => stB_ch hs hj) hn (st k).n (Nat.le_refl _)
    have h5 := (stB_n hs).2.1
    unfold stsT
    rw [List.length_append, List.length_append, h3]
    omega
theorem mprint_ok (A : Option Addr) (n c : Nat) (st : Nat → StV) (w : World) (H : moB n st = true) (hA : Lst w A n st) (htab : Tab w) (HV : Hid (CV 20 #[.agg #[.slice A n c]] (.bool true) w)) (hlen : (moT n st).length ≤ 32768) :
    Calls Tryz.prog 40 #[.agg #[.slice A n c]] w fun e w' => e = .returned (.tuple #[.string ⟨(moT n st).toArray⟩, .int .i64 0]) ∧ Below w.heap.size w w' := by
  have HA := Lib.hid hA
  have HM := Lib.hid H
  have HT : Hid (Tab w) := htab
  have HLEN := Lib.hid hlen
  have hn := moB_n H
  have HI : Hid (∀ (u : Nat) wx, u < 100 → Calls Tryz.prog 83 #[.int .i64 (u : Int)] wx fun e w' => e = .returned (.string ⟨(Lib.decDigits u).toArray⟩) ∧ w' = wx) := fun u wx hu => Tryz.strconv_Itoa_small u hu wx
  have s0 := dec_len3 (u := n) (by omega)
  have z1 : ¬ 9223372036854775807 < 6 + (⟨(Lib.decDigits n).toArray⟩ : ByteArray).size := by
    show ¬ 9223372036854775807 < 6 + (Lib.decDigits n).toArray.size
    rw [List.size_toArray]
    omega
  have z2 : ¬ 9223372036854775807 < 6 + (⟨(Lib.decDigits n).toArray⟩ : ByteArray).size + 1 := by
    show ¬ 9223372036854775807 < 6 + (Lib.decDigits n).toArray.size + 1
    rw [List.size_toArray]
    omega
  have HMH : Hid (mhS n = ((⟨#[109, 111, 100, 101, 108, 32]⟩ : ByteArray) ++ ⟨(Lib.decDigits n).toArray⟩) ++ ⟨#[10]⟩) := rfl
  have HI0 : Hid (∀ wx, Calls Tryz.prog 83 #[.int .i64 (n : Int)] wx fun e w' => e = .returned (.string ⟨(Lib.decDigits n).toArray⟩) ∧ w' = wx) := fun wx => HI.out n wx (by omega)
  have HMS : Hid ((mhS n).size ≤ 20) := by
    show (mhS n).size ≤ 20
    unfold mhS
    simp only [ByteArray.size_append]
    show 6 + (Lib.decDigits n).toArray.size + 1 ≤ 20
    rw [List.size_toArray]
    omega
  clear s0 hA H htab hlen
  generalize (⟨(Lib.decDigits n).toArray⟩ : ByteArray) = N0 at z1 z2 HMH HI0
  go_enter Tryz.func40, Tryz.ntmps40
  go_upto_region 1 with fail
  generalize hX : w.alloc _ = X
  have HX : Hid (Below w.heap.size w X) := by rw [← hX]; exact below_alloc _ _
  have MX : Hid (MBx X w.heap.size A n c) := by rw [← hX]; exact MBx.new _ _ _ _ _
  clear hX
  obtain ⟨x0, -⟩ := MX.out
  go_wp2_with fail
  (with_reducible refine (HV.out.run HX.out).mono ?_)
  rintro e w1 ⟨rfl, hB1⟩
  have HX1 := Lib.hid (HX.out.trans (hB1.mono HX.out.size))
  have MX1 := Lib.hid (MX.out.keep hB1)
  clear x0 hB1 MX HX
  obtain ⟨x0, -⟩ := MX1.out
  go_upto_region 4 with fail
  generalize hY : w1.alloc _ = Y
  have hYr : Below w1.heap.size w1 Y := by rw [← hY]; exact below_alloc _ _
  have HIB : Hid (IsB w1.heap.size w1.heap.size [] Y) := by rw [← hY]; exact Lib.fresh_isBuilder _ _ _
  have MY := Lib.hid (MX1.out.keep hYr)
  have HY := Lib.hid (HX1.out.trans (hYr.mono HX1.out.size))
  have hBY : w1.heap.size < Y.heap.size := by rw [← hY]; simp
  have hwB : w.heap.size ≤ w1.heap.size := HX1.out.size
  have HWB : Hid (w.heap.size < w1.heap.size) := MX1.out.2
  have HBB := Lib.hid hwB
  have HBY := Lib.hid hBY
  clear hY hYr x0 MX1 HX1 hBY hwB
  generalize w1.heap.size = B at *
  obtain ⟨x0, -⟩ := MY.out
  go_wp2_with fail
  (with_reducible refine (HI0.out Y).mono ?_)
  rintro e w2 ⟨rfl, rfl⟩
  go_wp2_with fail
  rw [← HMH.out]
  (with_reducible refine (writeString_any B B [] (mhS n) w2 HIB.out (by have := HMS.out; simp; omega) (Nat.le_of_lt HBY.out)).mono ?_)
  rintro e w3 ⟨rfl, hAT, hB3, -⟩
  have HAT : Hid (AtB B B (Lib.byteCells ((mhS n).data.toList ++ stsT st 0)) w3) := by
    have e : (mhS n).data.toList ++ stsT st 0 = (mhS n).data.toList := List.append_nil _
    rw [e]
    exact hAT
  have HY3 := Lib.hid (HY.out.trans (hB3.mono HBB.out))
  have HSZ : Hid (B ≤ w3.heap.size) := Nat.le_trans (Nat.le_of_lt HBY.out) hB3.size
  have x1 := (hB3.cell (p := ⟨w.heap.size, 0, none⟩) HWB.out).trans x0
  clear x0 hAT hB3 HY HIB MY HBY z1 z2 HMH HI0
  go_wp2_with fail
  clear x1
  go_loopw [22] (fun i wr => ∃ k : Nat, Hid (k ≤ n) ∧ i = .int .i64 (k : Int) ∧ Hid (AtB B B (Lib.byteCells ((mhS n).data.toList ++ stsT st k)) wr) ∧ Hid (B ≤ wr.heap.size) ∧ Hid (Below w.heap.size w wr)) (fun i _ => n - (intOf i).toNat)
  case atStart => exact ⟨0, Nat.zero_le _, rfl, HAT, HSZ, HY3⟩
  case round =>
    clear HAT HSZ HY3
    obtain ⟨k, hk, rfl, hAT, hSZ, hW⟩ := hrel
    by_cases hlt : k < n
    · obtain ⟨b, off, hAe, hb, hcells⟩ := (HA.out.keep hW.out).1 (by omega)
      obtain ⟨hc0, hc1, hc2⟩ := hcells k hlt
      dsimp only at hc0 hc1 hc2
      have hlt' : (k : Int) < (n : Int) := by omega
      have hsk := moB_st HM.out hlt
      obtain ⟨hm1, hm8, ho0, ho1, hk0, hk63⟩ := stB_n hsk
      have HL : Hid ((stsT st k).length ≤ 10000 * k) := stsT_len HM.out k (by omega)
      have HCH : Hid (∀ j, j < (st k).n → chB n ((st k).ch j) = true) := fun j hj => stB_ch hsk hj
      have HSL : Hid ((hdS (st k)).size ≤ 20) := hdS_len hsk
      have HSK : Hid (stsT st (k + 1) = stsT st k ++ ((hdS (st k)).data.toList ++ chsT (st k).ch (st k).n)) := rfl
      clear hcells hsk
      generalize hS : st k = S at *
      have HS := Lib.hid hS
      clear hS
      obtain ⟨ow, mrk, D, m, d, ch⟩ := S
      simp only at hc0 hc1 hc2 hm1 hm8 ho0 ho1 hk0 hk63 HCH HSK
      subst hAe
      obtain ⟨u1, rfl⟩ := Int.eq_ofNat_of_zero_le ho0
      obtain ⟨u2, rfl⟩ := Int.eq_ofNat_of_zero_le hk0
      have HHD : Hid (hdS ⟨(u1 : Int), (u2 : Int), D, m, d, ch⟩ = ((((⟨#[115, 116, 97, 116, 101, 32]⟩ : ByteArray) ++ ⟨(Lib.decDigits u1).toArray⟩) ++ ⟨#[32]⟩) ++ ⟨(Lib.decDigits u2).toArray⟩) ++ ⟨#[10]⟩) := rfl
      have a := dec_len3 (u := u1) (by omega)
      have b2 := dec_len3 (u := u2) (by omega)
      have s1 : (⟨(Lib.decDigits u1).toArray⟩ : ByteArray).size ≤ 3 := by show (Lib.decDigits u1).toArray.size ≤ 3; rw [List.size_toArray]; exact a
      have s2 : (⟨(Lib.decDigits u2).toArray⟩ : ByteArray).size ≤ 3 := by show (Lib.decDigits u2).toArray.size ≤ 3; rw [List.size_toArray]; exact b2
      have H1 : Hid (∀ wx, Calls Tryz.prog 83 #[.int .i64 (u1 : Int)] wx fun e w' => e = .returned (.string ⟨(Lib.decDigits u1).toArray⟩) ∧ w' = wx) := fun wx => HI.out u1 wx (by omega)
      have H2 : Hid (∀ wx, Calls Tryz.prog 83 #[.int .i64 (u2 : Int)] wx fun e w' => e = .returned (.string ⟨(Lib.decDigits u2).toArray⟩) ∧ w' = wx) := fun wx => HI.out u2 wx (by omega)
      clear a b2 ho0 ho1 hk0 hk63
      generalize hHD : hdS ⟨(u1 : Int), (u2 : Int), D, m, d, ch⟩ = HDR at HHD HSL HSK
      clear hHD
      generalize (⟨(Lib.decDigits u1).toArray⟩ : ByteArray) = T1 at HHD s1 H1
      generalize (⟨(Lib.decDigits u2).toArray⟩ : ByteArray) = T2 at HHD s2 H2
      have z1 : ¬ 9223372036854775807 < 6 + T1.size := by omega
      have z2 : ¬ 9223372036854775807 < 6 + T1.size + 1 := by omega
      have z3 : ¬ 9223372036854775807 < 6 + T1.size + 1 + T2.size := by omega
      have z4 : ¬ 9223372036854775807 < 6 + T1.size + 1 + T2.size + 1 := by omega
      clear s1 s2
      go_upto_region 8 with fail
      generalize hY : wr.alloc _ = Y
      have hYr : Below wr.heap.size wr Y := by subst hY; exact below_alloc _ _
      have BY : Hid (Bc3 Y wr.heap.size (.int .i64 (u1 : Int)) (.int .i64 (u2 : Int)) (.slice D m d)) := by rw [← hY]; exact Bc3.new _ _ _ _ _
      have BH : Hid (Y.heap[wr.heap.size]? = some (.cells #[.int .i64 (u1 : Int), .int .i64 (u2 : Int), .slice D m d] 53 (0, 0))) := by rw [← hY]; exact heap_alloc_new _ _
      have HW1 := Lib.hid (hW.out.trans (hYr.mono hW.out.size))
      have HAT1 := Lib.hid (hAT.out.keep hYr)
      have HSZ1 : Hid (B ≤ Y.heap.size) := Nat.le_trans hSZ.out hYr.size
      have HLB : Hid (B < wr.heap.size) := lt_of_heap hAT.out.2.choose_spec.1
      clear hY hYr hc0 hc1 hc2 hb hW hAT hSZ
      generalize wr.heap.size = gb at *
      obtain ⟨j0, j1, j2, -⟩ := BY.out
      go_still_tail 10, (by kernel_rfl)
      still_call (H1.out _)
      repeat still_step
      still_call (H2.out _)
      repeat still_step
      refine wpStill_nil ?_
      change wpList _ _ _ _ _ Y.drew
      have HAT2 : Hid (AtB B B (Lib.byteCells ((mhS n).data.toList ++ stsT st k)) Y.drew) := HAT1
      have HSZ2 : Hid (B ≤ Y.drew.heap.size) := HSZ1
      have HW2 : Hid (Below w.heap.size w Y.drew) := HW1.out.drew
      have BY2 : Hid (Bc3 Y.drew gb (.int .i64 (u1 : Int)) (.int .i64 (u2 : Int)) (.slice D m d)) := BY
      have BH2 : Hid (Y.drew.heap[gb]? = some (.cells #[.int .i64 (u1 : Int), .int .i64 (u2 : Int), .slice D m d] 53 (0, 0))) := BH
      clear HAT1 HSZ1 HW1 j0 j1 j2 BY BH
      generalize Y.drew = V at *
      go_wp2_with fail
      rw [← HHD.out]
      (with_reducible refine (writeString_any B B (Lib.byteCells ((mhS n).data.toList ++ stsT st k)) HDR V HAT2.out.is (by have := HSL.out; have := HL.out; have := HMS.out; rw [Lib.byteCells_length, List.length_append, data_len]; omega) HSZ2.out).mono ?_)
      rintro e w4 ⟨rfl, hAT4, hB4, hK4⟩
      have HAT4 : Hid (AtB B B (Lib.byteCells (((mhS n).data.toList ++ stsT st k ++ HDR.data.toList) ++ chsT ch 0)) w4) := by
        have e : Lib.byteCells (((mhS n).data.toList ++ stsT st k ++ HDR.data.toList) ++ chsT ch 0) = Lib.byteCells ((mhS n).data.toList ++ stsT st k) ++ Lib.strCells HDR := by
          rw [show chsT ch 0 = [] from rfl, List.append_nil]
          exact List.map_append
        rw [e]
        exact hAT4
      have HSZ4 : Hid (B ≤ w4.heap.size) := Nat.le_trans HSZ2.out hB4.size
      have HW4 := Lib.hid (HW2.out.trans (hB4.mono HBB.out))
      have BH4 := hK4 gb _ _ _ (by have := HLB.out; omega) (by decide) BH2.out
      have j2 : w4.cell? ⟨gb, 2, none⟩ = some (.slice D m d) := by
        unfold World.cell?
        simp only [BH4]
        rfl
      have HTB : Hid (((mhS n).data.toList ++ stsT st k ++ HDR.data.toList).length ≤ 500000) := by
        have := HSL.out; have := HL.out; have := HMS.out
        show _ ≤ _
        rw [List.length_append, List.length_append, data_len, data_len]
        omega
      have HSK2 : Hid ((mhS n).data.toList ++ stsT st (k + 1) = ((mhS n).data.toList ++ stsT st k ++ HDR.data.toList) ++ chsT ch m) := Lib.hid (by rw [HSK.out]; simp only [List.append_assoc])
      clear hAT4 hB4 hK4 BH4 HAT2 HSZ2 HW2 BY2 BH2 HHD z1 z2 z3 z4 H1 H2 HSK HL HSL
      generalize (mhS n).data.toList ++ stsT st k ++ HDR.data.toList = TB at HAT4 HTB HSK2
      go_wp2_with fail
      clear j2
      go_loopw [40] (fun i w2 => ∃ j : Nat, Hid (j ≤ m) ∧ i = .int .i64 (j : Int) ∧ Hid (AtB B B (Lib.byteCells (TB ++ chsT ch j)) w2) ∧ Hid (B ≤ w2.heap.size) ∧ Hid (Below w.heap.size w w2)) (fun i _ => m - (intOf i).toNat)
      case atStart => exact ⟨0, Nat.zero_le _, rfl, HAT4, HSZ4, HW4⟩
      case round =>
        clear HAT4 HSZ4 HW4
        obtain ⟨j, hj, rfl, hAT, hSZ, hW⟩ := hrel
        by_cases hlt2 : j < m
        · have HL2 : Lch wr D m ch := by
            have := (HA.out.keep hW.out).2 k hlt
            rw [HS.out] at this
            exact this
          obtain ⟨b2, off2, hDe, hb2, hcells2⟩ := HL2.1 (by omega)
          obtain ⟨hd0, hd1, hd2⟩ := hcells2 j hlt2
          dsimp only at hd0 hd1 hd2
          have hlt2' : (j : Int) < (m : Int) := by omega
          have hcb := HCH.out j hlt2
          have HPC : Hid (∀ wx, Below wr.heap.size wr wx → Calls Tryz.prog 84 #[.agg #[.int .i64 (ch j).t, .int .i64 (ch j).l, .slice (ch j).A (ch j).n (ch j).c]] wx fun e w' => e = .returned (.string (chS (ch j))) ∧ Below wx.heap.size wx w') := fun wx hx => pchoice_any (ch j) n wx hcb hn.2 ((HL2.2 j hlt2).keep hx) (HT.out.keep (hW.out.trans (hx.mono hW.out.size)))
          have HCSL : Hid ((chS (ch j)).size ≤ 1100) := chS_len hcb hn.2
          have HCL : Hid ((chsT ch j).length ≤ 1100 * j) := chsT_len (ch := ch) (m := m) (fun j hj => HCH.out j hj) hn.2 j (by omega)
          have HCS : Hid (chsT ch (j + 1) = chsT ch j ++ (chS (ch j)).data.toList) := rfl
          clear hcells2 HL2 hcb
          generalize (ch j).t = tk at hd0 HPC
          generalize (ch j).l = lk at hd1 HPC
          generalize (ch j).A = Ak at hd2 HPC
          generalize (ch j).n = nk at hd2 HPC
          generalize (ch j).c = ck at hd2 HPC
          generalize chS (ch j) = CS at HPC HCSL HCS
          subst hDe
          go_upto_region 12 with fail
          generalize hY : wr.alloc _ = Y
          have hYr : Below wr.heap.size wr Y := by subst hY; exact below_alloc _ _
          have BY : Hid (Bc3 Y wr.heap.size (.int .i64 tk) (.int .i64 lk) (.slice Ak nk ck)) := by rw [← hY]; exact Bc3.new _ _ _ _ _
          have HW1 := Lib.hid (hW.out.trans (hYr.mono hW.out.size))
          have HAT1 := Lib.hid (hAT.out.keep hYr)
          have HSZ1 : Hid (B ≤ Y.heap.size) := Nat.le_trans hSZ.out hYr.size
          have HYR := Lib.hid hYr
          clear hY hYr hd0 hd1 hd2 hb2 hW hAT hSZ
          obtain ⟨j0, j1, j2, -⟩ := BY.out
          go_wp2_with fail
          (with_reducible refine (HPC.out Y HYR.out).mono ?_)
          rintro e w5 ⟨rfl, hB5⟩
          have HW5 := Lib.hid (HW1.out.trans (hB5.mono HW1.out.size))
          have HAT5 := Lib.hid (HAT1.out.keep hB5)
          have HSZ5 : Hid (B ≤ w5.heap.size) := Nat.le_trans HSZ1.out hB5.size
          clear j0 j1 j2 hB5 BY HW1 HAT1 HSZ1 HYR HPC
          go_wp2_with fail
          (with_reducible refine (writeString_any B B (Lib.byteCells (TB ++ chsT ch j)) CS w5 HAT5.out.is (by have := HCSL.out; have := HCL.out; have := HTB.out; rw [Lib.byteCells_length, List.length_append]; omega) HSZ5.out).mono ?_)
          rintro e w6 ⟨rfl, hAT6, hB6, -⟩
          have HAT6 : Hid (AtB B B (Lib.byteCells (TB ++ chsT ch (j + 1))) w6) := by
            have e : Lib.byteCells (TB ++ chsT ch (j + 1)) = Lib.byteCells (TB ++ chsT ch j) ++ Lib.strCells CS := by
              rw [HCS.out, ← List.append_assoc]
              exact List.map_append
            rw [e]
            exact hAT6
          have HSZ6 : Hid (B ≤ w6.heap.size) := Nat.le_trans HSZ5.out hB6.size
          have HW6 := Lib.hid (HW5.out.trans (hB6.mono HBB.out))
          clear hAT6 hB6 HAT5 HSZ5 HW5 HCS HCL HCSL
          go_wp2_with fail
          exact ⟨⟨j + 1, Lib.hid (by omega), by rw [show ((j + 1 : Nat) : Int) = (j : Int) + 1 from by omega], HAT6, HSZ6, HW6⟩, by simp [intOf]; omega⟩
        · have hje : j = m := by have := hj.out; omega
          have hlt2' : ¬ (j : Int) < (m : Int) := by omega
          have HAT7 : Hid (AtB B B (Lib.byteCells ((mhS n).data.toList ++ stsT st (k + 1))) wr) := by
            rw [HSK2.out, show chsT ch m = chsT ch j from by rw [hje]]
            exact hAT.out
          clear hje hAT
          go_wp2_with fail
          exact ⟨⟨k + 1, Lib.hid (by omega), by rw [show ((k + 1 : Nat) : Int) = (k : Int) + 1 from by omega], HAT7, hSZ, hW⟩, by simp [intOf]; omega⟩
    · have hke : k = n := by have := hk.out; omega
      have hlt' : ¬ (k : Int) < (n : Int) := by omega
      have HAT8 : Hid (AtB B B (Lib.byteCells (moT n st)) wr) := by
        show AtB B B (Lib.byteCells ((mhS n).data.toList ++ stsT st n)) wr
        rw [show stsT st n = stsT st k from by rw [hke]]
        exact hAT.out
      have hl1 : ¬ (32768 : Int) < ((moT n st).length : Int) := by have := HLEN.out; omega
      clear hke hAT
      generalize hMT : moT n st = MT at HAT8 hl1
      have HMT := Lib.hid hMT
      clear hMT
      go_wp2_with fail
      (with_reducible refine (Tryz.Builder_Len B B (Lib.byteCells MT) wr HAT8.out.is).mono ?_)
      rintro e w2 ⟨rfl, rfl⟩
      rw [Lib.byteCells_length]
      go_wp2_with fail
      (with_reducible refine (Tryz.Builder_String_any B B MT _ HAT8.out.is hSZ.out).mono ?_)
      rintro e w3 ⟨rfl, hB3⟩
      have HW3 := Lib.hid (hW.out.trans (hB3.mono HBB.out))
      clear hB3
      go_wp2_with fail
      go_ret2
      exact ⟨by rw [HMT.out]; rfl, HW3.out⟩
theorem lnum_any (t l : Int) (w : World) : Calls Tryz.prog 89 #[.int .i64 t, .int .i64 l] w fun e w' => e = .returned (.agg #[.int .i64 t, .int .i64 l]) ∧ Below w.heap.size w w' := by
  go_enter Tryz.func89, Tryz.ntmps89
  go_wp2_with fail
  exact bodyPost_ret (v := .agg #[.int .i64 t, .int .i64 l]) (by simp [results, Tryz.results89, go_sem, *]) rfl ⟨rfl, by repeat (first | exact below_alloc _ _ | refine Below.setCell ?_ (Nat.le_refl _) _)⟩
def dSt (C1 C2 C3 S1 S2 S3 S4 : Option Addr) : Nat → StV := fun i =>
  if i = 0 then ⟨0, 0, C1, 2, 2, fun j => if j = 0 then ⟨0, 1, S1, 2, 2, fun q => if q = 0 then 1 else 2, fun q => if q = 0 then 2 else 1, fun _ => 3⟩ else ⟨0, 1, S2, 3, 3, fun q => (q : Int), fun _ => 1, fun q => if q = 0 then 2 else 4⟩⟩
  else if i = 1 then ⟨0, 0, C2, 1, 1, fun _ => ⟨0, 1, S3, 1, 1, fun _ => 1, fun _ => 1, fun _ => 1⟩⟩
  else ⟨0, 1, C3, 1, 1, fun _ => ⟨0, 1, S4, 1, 1, fun _ => 2, fun _ => 1, fun _ => 1⟩⟩
theorem dSt_ok (C1 C2 C3 S1 S2 S3 S4 : Option Addr) : moB 3 (dSt C1 C2 C3 S1 S2 S3 S4) = true := by kernel_rfl
theorem d0 : Lib.decDigits 0 = [48] := by unfold Lib.decDigits; rfl
theorem d1 : Lib.decDigits 1 = [49] := by unfold Lib.decDigits; rfl
theorem d2 : Lib.decDigits 2 = [50] := by unfold Lib.decDigits; rfl
theorem d3 : Lib.decDigits 3 = [51] := by unfold Lib.decDigits; rfl
theorem d4 : Lib.decDigits 4 = [52] := by unfold Lib.decDigits; rfl
def diceText : List UInt8 := [109, 111, 100, 101, 108, 32, 51, 10, 115, 116, 97, 116, 101, 32, 48, 32, 48, 10, 99, 104, 111, 105, 99, 101, 32, 48, 58, 32, 49, 32, 50, 47, 51, 44, 32, 50, 32, 49, 47, 51, 10, 99, 104, 111, 105, 99, 101, 32, 48, 58, 32, 48, 32, 49, 47, 50, 44, 32, 49, 32, 49, 47, 52, 44, 32, 50, 32, 49, 47, 52, 10, 115, 116, 97, 116, 101, 32, 48, 32, 48, 10, 99, 104, 111, 105, 99, 101, 32, 48, 58, 32, 49, 32, 49, 10, 115, 116, 97, 116, 101, 32, 48, 32, 49, 10, 99, 104, 111, 105, 99, 101, 32, 48, 58, 32, 50, 32, 49, 10]
theorem dSt_text (C1 C2 C3 S1 S2 S3 S4 : Option Addr) : moT 3 (dSt C1 C2 C3 S1 S2 S3 S4) = diceText := by kernel_rfl
end Go.Proofs.YtmfnpipmbpnfbaaGreatDoor
