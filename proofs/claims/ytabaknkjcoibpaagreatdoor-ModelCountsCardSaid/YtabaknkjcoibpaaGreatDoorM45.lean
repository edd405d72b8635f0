/- One choice in each state; sets and strategies: by the program and by the reference. -/
import Derived.Test.YtabaknkjcoibpaaGreatDoorM42

namespace Go.Proofs.YtabaknkjcoibpaaGreatDoor
open Go.RowKit

/-- n integers lie in memory, at A. -/
def Lin (w : World) (A : Option Addr) (n : Nat) (f : Nat → Int) : Prop := 0 < n → ∃ b off, A = some ⟨b, off, none⟩ ∧ b < w.heap.size ∧ ∀ i, i < n → w.cell? ⟨b, off + i, none⟩ = some (.int .i64 (f i))
theorem Lin.keep {w w' : World} {A : Option Addr} {n : Nat} {f : Nat → Int} (h : Lin w A n f) (hb : Below w.heap.size w w') : Lin w' A n f := by
  intro hn
  obtain ⟨b, off, hA, hlt, hc⟩ := h hn
  exact ⟨b, off, hA, Nat.lt_of_lt_of_le hlt hb.size, fun i hi => (hb.cell (p := ⟨b, off + i, none⟩) hlt).trans (hc i hi)⟩

def oneP (st : Nat → StV) (i : Nat) : Bool := !(decide ((1 : Int) < ((st i).n : Int)))
def oneR (st : Nat → StV) (i : Nat) : Bool := !(((st i).n : Int) != 1)
theorem one_same {n : Nat} {st : Nat → StV} (H : moB n st = true) : allB (oneP st) n = allB (oneR st) n := by
  unfold allB
  rw [Bool.eq_iff_iff, List.all_eq_true, List.all_eq_true]
  refine forall_congr' fun i => ?_
  refine imp_congr_right fun hi => ?_
  have := (stB_n (moB_st H (List.mem_range.1 hi))).1
  unfold oneP oneR
  simp
  omega

set_option maxRecDepth 100000 in
set_option maxHeartbeats 8000000 in
theorem rsingle_any (A : Option Addr) (n c : Nat) (st : Nat → StV) (w : World) (hn : n ≤ 1000000) (hA : Lst w A n st) :
    Calls Tryz.prog 45 #[.agg #[.slice A n c]] w fun e w' => e = .returned (.bool (allB (oneR st) n)) ∧ Below w.heap.size w w' := by
  have HA := Lib.hid hA
  clear hA
  go_enter Tryz.func45, Tryz.ntmps45
  go_upto_region 1 with fail
  generalize hX : w.alloc _ = X
  have HX : Hid (Below w.heap.size w X) := by rw [← hX]; exact below_alloc _ _
  have x0 : X.cell? ⟨w.heap.size, 0, none⟩ = some (.slice A n c) := by
    subst hX
    simp [go_sem]
  clear hX
  go_wp2_with fail
  clear x0
  go_loopw [8] (fun i wr => ∃ k : Nat, Hid (k ≤ n) ∧ i = .int .i64 (k : Int) ∧ Hid (∀ j, j < k → oneR st j = true) ∧ Hid (Below w.heap.size w wr)) (fun i _ => n - (intOf i).toNat)
  case atStart => exact ⟨0, Nat.zero_le _, rfl, Lib.hid (fun i hi => absurd hi (by omega)), HX⟩
  case round =>
    obtain ⟨k, hk, rfl, hv, hB⟩ := hrel
    by_cases hlt : k < n
    · obtain ⟨b, off, rfl, hb, hcells⟩ := (HA.out.keep hB.out).1 (by omega)
      obtain ⟨hc0, hc1, hc2⟩ := hcells k hlt
      dsimp only at hc0 hc1 hc2
      have hlt' : (k : Int) < (n : Int) := by omega
      have HC := Lib.hid (Eq.refl (oneR st k))
      clear hcells
      generalize htk : (st k).ow = tk at hc0
      generalize hlk : (st k).mrk = lk at hc1
      generalize hAk : (st k).A = Ak at hc2
      generalize hnk : (st k).n = nk at hc2
      generalize hck : (st k).c = ck at hc2
      have HNK := Lib.hid hnk
      clear htk hlk hAk hck hnk
      cases tt : ((nk : Int) != 1) with
      | true =>
        have HE : Hid (allB (oneR st) n = false) := allB_false hlt (by simp only [oneR]; rw [HNK.out, tt]; rfl)
        go_wp2_with fail
        go_ret
        exact ⟨by rw [HE.out]; rfl, hB.out.alloc hB.out.size _⟩
      | false =>
        have HV : Hid (∀ i, i < k + 1 → oneR st i = true) := fun i hi => by
          by_cases e : i = k
          · subst e
            simp only [oneR]
            rw [HNK.out, tt]
            rfl
          · exact hv.out i (by omega)
        clear hv HC
        go_wp2_with fail
        exact ⟨⟨k + 1, Lib.hid (by omega), by rw [show ((k + 1 : Nat) : Int) = (k : Int) + 1 from by omega], HV, Lib.hid (hB.out.alloc hB.out.size _)⟩, by simp [intOf]; omega⟩
    · have hke : k = n := by have := hk.out; omega
      have HE : Hid (allB (oneR st) n = true) := allB_true (fun i hi => hv.out i (by omega))
      have hlt' : ¬ (k : Int) < (n : Int) := by omega
      clear hke hv
      go_wp2_with fail
      go_ret
      exact ⟨by rw [HE.out]; rfl, hB.out⟩

set_option maxRecDepth 100000 in
set_option maxHeartbeats 8000000 in
theorem chain_ok (A : Option Addr) (n c : Nat) (st : Nat → StV) (w : World) (hn : n ≤ 1000000) (hA : Lst w A n st) (HV0 : Hid (CV 20 #[.agg #[.slice A n c]] (.bool true) w)) :
    Calls Tryz.prog 16 #[.agg #[.slice A n c]] w fun e w' => e = .returned (.tuple #[.bool (allB (oneP st) n), .int .i64 0]) ∧ Below w.heap.size w w' := by
  have HA := Lib.hid hA
  clear hA
  go_enter Tryz.func16, Tryz.ntmps16
  go_upto_region 1 with fail
  generalize hX : w.alloc _ = X
  have HX : Hid (Below w.heap.size w X) := by rw [← hX]; exact below_alloc _ _
  have MX : Hid (MBx X w.heap.size A n c) := by rw [← hX]; exact MBx.new _ _ _ _ _
  clear hX
  obtain ⟨x0, -⟩ := MX.out
  go_wp2_with fail
  (with_reducible refine (HV0.out.run HX.out).mono ?_)
  rintro e w1 ⟨rfl, hB1⟩
  have HX1 := Lib.hid (HX.out.trans (hB1.mono HX.out.size))
  have MX1 := Lib.hid (MX.out.keep hB1)
  clear x0 hB1 MX HX
  have HX := HX1
  obtain ⟨x0, -⟩ := MX1.out
  go_wp2_with fail
  clear x0 HX1
  go_loopw [12] (fun i wr => ∃ k : Nat, Hid (k ≤ n) ∧ i = .int .i64 (k : Int) ∧ Hid (∀ j, j < k → oneP st j = true) ∧ Hid (Below w.heap.size w wr)) (fun i _ => n - (intOf i).toNat)
  case atStart => exact ⟨0, Nat.zero_le _, rfl, Lib.hid (fun i hi => absurd hi (by omega)), HX⟩
  case round =>
    obtain ⟨k, hk, rfl, hv, hB⟩ := hrel
    by_cases hlt : k < n
    · obtain ⟨b, off, rfl, hb, hcells⟩ := (HA.out.keep hB.out).1 (by omega)
      obtain ⟨hc0, hc1, hc2⟩ := hcells k hlt
      dsimp only at hc0 hc1 hc2
      have hlt' : (k : Int) < (n : Int) := by omega
      have HC := Lib.hid (Eq.refl (oneP st k))
      clear hcells
      generalize htk : (st k).ow = tk at hc0
      generalize hlk : (st k).mrk = lk at hc1
      generalize hAk : (st k).A = Ak at hc2
      generalize hnk : (st k).n = nk at hc2
      generalize hck : (st k).c = ck at hc2
      have HNK := Lib.hid hnk
      clear htk hlk hAk hck hnk
      cases tt : decide ((1 : Int) < (nk : Int)) with
      | true =>
        have HE : Hid (allB (oneP st) n = false) := allB_false hlt (by simp only [oneP]; rw [HNK.out, tt]; rfl)
        go_wp2_with fail
        go_ret2
        exact ⟨by rw [HE.out]; rfl, hB.out.alloc hB.out.size _⟩
      | false =>
        have HV : Hid (∀ i, i < k + 1 → oneP st i = true) := fun i hi => by
          by_cases e : i = k
          · subst e
            simp only [oneP]
            rw [HNK.out, tt]
            rfl
          · exact hv.out i (by omega)
        clear hv HC
        go_wp2_with fail
        exact ⟨⟨k + 1, Lib.hid (by omega), by rw [show ((k + 1 : Nat) : Int) = (k : Int) + 1 from by omega], HV, Lib.hid (hB.out.alloc hB.out.size _)⟩, by simp [intOf]; omega⟩
    · have hke : k = n := by have := hk.out; omega
      have HE : Hid (allB (oneP st) n = true) := allB_true (fun i hi => hv.out i (by omega))
      have hlt' : ¬ (k : Int) < (n : Int) := by omega
      clear hke hv
      go_wp2_with fail
      go_ret2
      exact ⟨by rw [HE.out]; rfl, hB.out⟩

set_option maxRecDepth 100000 in
set_option maxHeartbeats 8000000 in
theorem chain_bad (A : Option Addr) (n c : Nat) (w : World) (HV0 : Hid (CV 20 #[.agg #[.slice A n c]] (.bool false) w)) :
    Calls Tryz.prog 16 #[.agg #[.slice A n c]] w fun e w' => e = .returned (.tuple #[.bool false, .int .i64 1]) ∧ Below w.heap.size w w' := by
  go_enter Tryz.func16, Tryz.ntmps16
  go_upto_region 1 with fail
  generalize hX : w.alloc _ = X
  have HX : Hid (Below w.heap.size w X) := by rw [← hX]; exact below_alloc _ _
  have x0 : X.cell? ⟨w.heap.size, 0, none⟩ = some (.slice A n c) := by
    subst hX
    simp [go_sem]
  clear hX
  go_wp2_with fail
  (with_reducible refine (HV0.out.run HX.out).mono ?_)
  rintro e w1 ⟨rfl, hB1⟩
  have HX1 := Lib.hid (HX.out.trans (hB1.mono HX.out.size))
  clear x0 hB1
  go_wp2_with fail
  go_ret2
  exact ⟨rfl, HX1.out⟩

set_option maxRecDepth 100000 in
set_option maxHeartbeats 8000000 in
theorem rchain_bad (A : Option Addr) (n c : Nat) (w : World) (HV0 : Hid (CV 21 #[.agg #[.slice A n c]] (.bool false) w)) :
    Calls Tryz.prog 12 #[.agg #[.slice A n c]] w fun e w' => e = .returned (.tuple #[.bool false, .int .i64 1]) ∧ Below w.heap.size w w' := by
  go_enter Tryz.func12, Tryz.ntmps12
  go_upto_region 1 with fail
  generalize hX : w.alloc _ = X
  have HX : Hid (Below w.heap.size w X) := by rw [← hX]; exact below_alloc _ _
  have x0 : X.cell? ⟨w.heap.size, 0, none⟩ = some (.slice A n c) := by
    subst hX
    simp [go_sem]
  clear hX
  go_wp2_with fail
  (with_reducible refine (HV0.out.run HX.out).mono ?_)
  rintro e w1 ⟨rfl, hB1⟩
  have HX1 := Lib.hid (HX.out.trans (hB1.mono HX.out.size))
  clear x0 hB1
  go_wp2_with fail
  go_ret2
  exact ⟨rfl, HX1.out⟩

set_option maxRecDepth 100000 in
set_option maxHeartbeats 8000000 in
theorem rchain_ok (A : Option Addr) (n c : Nat) (r : Bool) (w : World) (HV0 : Hid (CV 21 #[.agg #[.slice A n c]] (.bool true) w)) (HV1 : Hid (CV 45 #[.agg #[.slice A n c]] (.bool r) w)) :
    Calls Tryz.prog 12 #[.agg #[.slice A n c]] w fun e w' => e = .returned (.tuple #[.bool r, .int .i64 0]) ∧ Below w.heap.size w w' := by
  go_enter Tryz.func12, Tryz.ntmps12
  go_upto_region 1 with fail
  generalize hX : w.alloc _ = X
  have HX : Hid (Below w.heap.size w X) := by rw [← hX]; exact below_alloc _ _
  have MX : Hid (MBx X w.heap.size A n c) := by rw [← hX]; exact MBx.new _ _ _ _ _
  clear hX
  obtain ⟨x0, -⟩ := MX.out
  go_wp2_with fail
  (with_reducible refine (HV0.out.run HX.out).mono ?_)
  rintro e w1 ⟨rfl, hB1⟩
  have HX1 := Lib.hid (HX.out.trans (hB1.mono HX.out.size))
  have MX1 := Lib.hid (MX.out.keep hB1)
  clear x0 hB1 MX HX
  obtain ⟨x0, -⟩ := MX1.out
  go_wp2_with fail
  (with_reducible refine (HV1.out.run HX1.out).mono ?_)
  rintro e w2 ⟨rfl, hB2⟩
  have HX2 := Lib.hid (HX1.out.trans (hB2.mono HX1.out.size))
  clear x0 hB2
  go_wp2_with fail
  go_ret2
  exact ⟨rfl, HX2.out⟩

set_option maxRecDepth 100000 in
set_option maxHeartbeats 8000000 in
theorem plain_bad (A : Option Addr) (n c : Nat) (w : World) (HV0 : Hid (CV 20 #[.agg #[.slice A n c]] (.bool false) w)) :
    Calls Tryz.prog 17 #[.agg #[.slice A n c]] w fun e w' => e = .returned (.tuple #[.bool false, .int .i64 1]) ∧ Below w.heap.size w w' := by
  go_enter Tryz.func17, Tryz.ntmps17
  go_upto_region 1 with fail
  generalize hX : w.alloc _ = X
  have HX : Hid (Below w.heap.size w X) := by rw [← hX]; exact below_alloc _ _
  have x0 : X.cell? ⟨w.heap.size, 0, none⟩ = some (.slice A n c) := by
    subst hX
    simp [go_sem]
  clear hX
  go_wp2_with fail
  (with_reducible refine (HV0.out.run HX.out).mono ?_)
  rintro e w1 ⟨rfl, hB1⟩
  have HX1 := Lib.hid (HX.out.trans (hB1.mono HX.out.size))
  clear x0 hB1
  go_wp2_with fail
  go_ret2
  exact ⟨rfl, HX1.out⟩

set_option maxRecDepth 100000 in
set_option maxHeartbeats 8000000 in
theorem rplain_bad (A : Option Addr) (n c : Nat) (w : World) (HV0 : Hid (CV 21 #[.agg #[.slice A n c]] (.bool false) w)) :
    Calls Tryz.prog 13 #[.agg #[.slice A n c]] w fun e w' => e = .returned (.tuple #[.bool false, .int .i64 1]) ∧ Below w.heap.size w w' := by
  go_enter Tryz.func13, Tryz.ntmps13
  go_upto_region 1 with fail
  generalize hX : w.alloc _ = X
  have HX : Hid (Below w.heap.size w X) := by rw [← hX]; exact below_alloc _ _
  have x0 : X.cell? ⟨w.heap.size, 0, none⟩ = some (.slice A n c) := by
    subst hX
    simp [go_sem]
  clear hX
  go_wp2_with fail
  (with_reducible refine (HV0.out.run HX.out).mono ?_)
  rintro e w1 ⟨rfl, hB1⟩
  have HX1 := Lib.hid (HX.out.trans (hB1.mono HX.out.size))
  clear x0 hB1
  go_wp2_with fail
  go_ret2
  exact ⟨rfl, HX1.out⟩

set_option maxRecDepth 100000 in
set_option maxHeartbeats 8000000 in
theorem rplain_ok (A : Option Addr) (n c : Nat) (r : Bool) (w : World) (HV0 : Hid (CV 21 #[.agg #[.slice A n c]] (.bool true) w)) (HV1 : Hid (CV 46 #[.agg #[.slice A n c]] (.bool r) w)) :
    Calls Tryz.prog 13 #[.agg #[.slice A n c]] w fun e w' => e = .returned (.tuple #[.bool r, .int .i64 0]) ∧ Below w.heap.size w w' := by
  go_enter Tryz.func13, Tryz.ntmps13
  go_upto_region 1 with fail
  generalize hX : w.alloc _ = X
  have HX : Hid (Below w.heap.size w X) := by rw [← hX]; exact below_alloc _ _
  have MX : Hid (MBx X w.heap.size A n c) := by rw [← hX]; exact MBx.new _ _ _ _ _
  clear hX
  obtain ⟨x0, -⟩ := MX.out
  go_wp2_with fail
  (with_reducible refine (HV0.out.run HX.out).mono ?_)
  rintro e w1 ⟨rfl, hB1⟩
  have HX1 := Lib.hid (HX.out.trans (hB1.mono HX.out.size))
  have MX1 := Lib.hid (MX.out.keep hB1)
  clear x0 hB1 MX HX
  obtain ⟨x0, -⟩ := MX1.out
  go_wp2_with fail
  (with_reducible refine (HV1.out.run HX1.out).mono ?_)
  rintro e w2 ⟨rfl, hB2⟩
  have HX2 := Lib.hid (HX1.out.trans (hB2.mono HX1.out.size))
  clear x0 hB2
  go_wp2_with fail
  go_ret2
  exact ⟨rfl, HX2.out⟩

set_option maxRecDepth 100000 in
set_option maxHeartbeats 8000000 in
theorem vset_bad (A : Option Addr) (n c : Nat) (B : Option Addr) (m d : Nat) (w : World) (HV0 : Hid (CV 20 #[.agg #[.slice A n c]] (.bool false) w)) :
    Calls Tryz.prog 18 #[.agg #[.slice A n c], .slice B m d] w fun e w' => e = .returned (.tuple #[.bool false, .int .i64 1]) ∧ Below w.heap.size w w' := by
  go_enter Tryz.func18, Tryz.ntmps18
  go_upto_region 1 with fail
  generalize hX : w.alloc _ = X
  have HX : Hid (Below w.heap.size w X) := by rw [← hX]; exact below_alloc _ _
  have x0 : X.cell? ⟨w.heap.size, 0, none⟩ = some (.slice A n c) := by
    subst hX
    simp [go_sem]
  clear hX
  go_wp2_with fail
  (with_reducible refine (HV0.out.run HX.out).mono ?_)
  rintro e w1 ⟨rfl, hB1⟩
  have HX1 := Lib.hid (HX.out.trans (hB1.mono HX.out.size))
  clear x0 hB1
  go_wp2_with fail
  go_ret2
  exact ⟨rfl, HX1.out⟩

set_option maxRecDepth 100000 in
set_option maxHeartbeats 8000000 in
theorem vset_ok (A : Option Addr) (n c : Nat) (B : Option Addr) (m d : Nat) (r : Bool) (w : World) (HV0 : Hid (CV 20 #[.agg #[.slice A n c]] (.bool true) w)) (HV1 : Hid (CV 51 #[.agg #[.slice A n c], .slice B m d] (.bool r) w)) :
    Calls Tryz.prog 18 #[.agg #[.slice A n c], .slice B m d] w fun e w' => e = .returned (.tuple #[.bool r, .int .i64 0]) ∧ Below w.heap.size w w' := by
  go_enter Tryz.func18, Tryz.ntmps18
  go_upto_region 1 with fail
  generalize hX : w.alloc _ = X
  have HX : Hid (Below w.heap.size w X) := by rw [← hX]; exact below_alloc _ _
  have MX : Hid (MBx X w.heap.size A n c) := by rw [← hX]; exact MBx.new _ _ _ _ _
  clear hX
  obtain ⟨x0, -⟩ := MX.out
  go_wp2_with fail
  (with_reducible refine (HV0.out.run HX.out).mono ?_)
  rintro e w1 ⟨rfl, hB1⟩
  have HX1 := Lib.hid (HX.out.trans (hB1.mono HX.out.size))
  have MX1 := Lib.hid (MX.out.keep hB1)
  clear x0 hB1 MX HX
  obtain ⟨x0, -⟩ := MX1.out
  go_wp2_with fail
  (with_reducible refine (HV1.out.run HX1.out).mono ?_)
  rintro e w2 ⟨rfl, hB2⟩
  have HX2 := Lib.hid (HX1.out.trans (hB2.mono HX1.out.size))
  clear x0 hB2
  go_wp2_with fail
  go_ret2
  exact ⟨rfl, HX2.out⟩

set_option maxRecDepth 100000 in
set_option maxHeartbeats 8000000 in
theorem vstr_bad (A : Option Addr) (n c : Nat) (B : Option Addr) (m d : Nat) (w : World) (HV0 : Hid (CV 20 #[.agg #[.slice A n c]] (.bool false) w)) :
    Calls Tryz.prog 19 #[.agg #[.slice A n c], .slice B m d] w fun e w' => e = .returned (.tuple #[.bool false, .int .i64 1]) ∧ Below w.heap.size w w' := by
  go_enter Tryz.func19, Tryz.ntmps19
  go_upto_region 1 with fail
  generalize hX : w.alloc _ = X
  have HX : Hid (Below w.heap.size w X) := by rw [← hX]; exact below_alloc _ _
  have x0 : X.cell? ⟨w.heap.size, 0, none⟩ = some (.slice A n c) := by
    subst hX
    simp [go_sem]
  clear hX
  go_wp2_with fail
  (with_reducible refine (HV0.out.run HX.out).mono ?_)
  rintro e w1 ⟨rfl, hB1⟩
  have HX1 := Lib.hid (HX.out.trans (hB1.mono HX.out.size))
  clear x0 hB1
  go_wp2_with fail
  go_ret2
  exact ⟨rfl, HX1.out⟩

set_option maxRecDepth 100000 in
set_option maxHeartbeats 8000000 in
theorem vstr_ok (A : Option Addr) (n c : Nat) (B : Option Addr) (m d : Nat) (r : Bool) (w : World) (HV0 : Hid (CV 20 #[.agg #[.slice A n c]] (.bool true) w)) (HV1 : Hid (CV 52 #[.agg #[.slice A n c], .slice B m d] (.bool r) w)) :
    Calls Tryz.prog 19 #[.agg #[.slice A n c], .slice B m d] w fun e w' => e = .returned (.tuple #[.bool r, .int .i64 0]) ∧ Below w.heap.size w w' := by
  go_enter Tryz.func19, Tryz.ntmps19
  go_upto_region 1 with fail
  generalize hX : w.alloc _ = X
  have HX : Hid (Below w.heap.size w X) := by rw [← hX]; exact below_alloc _ _
  have MX : Hid (MBx X w.heap.size A n c) := by rw [← hX]; exact MBx.new _ _ _ _ _
  clear hX
  obtain ⟨x0, -⟩ := MX.out
  go_wp2_with fail
  (with_reducible refine (HV0.out.run HX.out).mono ?_)
  rintro e w1 ⟨rfl, hB1⟩
  have HX1 := Lib.hid (HX.out.trans (hB1.mono HX.out.size))
  have MX1 := Lib.hid (MX.out.keep hB1)
  clear x0 hB1 MX HX
  obtain ⟨x0, -⟩ := MX1.out
  go_wp2_with fail
  (with_reducible refine (HV1.out.run HX1.out).mono ?_)
  rintro e w2 ⟨rfl, hB2⟩
  have HX2 := Lib.hid (HX1.out.trans (hB2.mono HX1.out.size))
  clear x0 hB2
  go_wp2_with fail
  go_ret2
  exact ⟨rfl, HX2.out⟩

set_option maxRecDepth 100000 in
set_option maxHeartbeats 8000000 in
theorem rvset_bad (A : Option Addr) (n c : Nat) (B : Option Addr) (m d : Nat) (w : World) (HV0 : Hid (CV 21 #[.agg #[.slice A n c]] (.bool false) w)) :
    Calls Tryz.prog 14 #[.agg #[.slice A n c], .slice B m d] w fun e w' => e = .returned (.tuple #[.bool false, .int .i64 1]) ∧ Below w.heap.size w w' := by
  go_enter Tryz.func14, Tryz.ntmps14
  go_upto_region 1 with fail
  generalize hX : w.alloc _ = X
  have HX : Hid (Below w.heap.size w X) := by rw [← hX]; exact below_alloc _ _
  have x0 : X.cell? ⟨w.heap.size, 0, none⟩ = some (.slice A n c) := by
    subst hX
    simp [go_sem]
  clear hX
  go_wp2_with fail
  (with_reducible refine (HV0.out.run HX.out).mono ?_)
  rintro e w1 ⟨rfl, hB1⟩
  have HX1 := Lib.hid (HX.out.trans (hB1.mono HX.out.size))
  clear x0 hB1
  go_wp2_with fail
  go_ret2
  exact ⟨rfl, HX1.out⟩

set_option maxRecDepth 100000 in
set_option maxHeartbeats 8000000 in
theorem rvset_ok (A : Option Addr) (n c : Nat) (B : Option Addr) (m d : Nat) (r : Bool) (w : World) (HV0 : Hid (CV 21 #[.agg #[.slice A n c]] (.bool true) w)) (HV1 : Hid (CV 47 #[.agg #[.slice A n c], .slice B m d] (.bool r) w)) :
    Calls Tryz.prog 14 #[.agg #[.slice A n c], .slice B m d] w fun e w' => e = .returned (.tuple #[.bool r, .int .i64 0]) ∧ Below w.heap.size w w' := by
  go_enter Tryz.func14, Tryz.ntmps14
  go_upto_region 1 with fail
  generalize hX : w.alloc _ = X
  have HX : Hid (Below w.heap.size w X) := by rw [← hX]; exact below_alloc _ _
  have MX : Hid (MBx X w.heap.size A n c) := by rw [← hX]; exact MBx.new _ _ _ _ _
  clear hX
  obtain ⟨x0, -⟩ := MX.out
  go_wp2_with fail
  (with_reducible refine (HV0.out.run HX.out).mono ?_)
  rintro e w1 ⟨rfl, hB1⟩
  have HX1 := Lib.hid (HX.out.trans (hB1.mono HX.out.size))
  have MX1 := Lib.hid (MX.out.keep hB1)
  clear x0 hB1 MX HX
  obtain ⟨x0, -⟩ := MX1.out
  go_wp2_with fail
  (with_reducible refine (HV1.out.run HX1.out).mono ?_)
  rintro e w2 ⟨rfl, hB2⟩
  have HX2 := Lib.hid (HX1.out.trans (hB2.mono HX1.out.size))
  clear x0 hB2
  go_wp2_with fail
  go_ret2
  exact ⟨rfl, HX2.out⟩

set_option maxRecDepth 100000 in
set_option maxHeartbeats 8000000 in
theorem rvstr_bad (A : Option Addr) (n c : Nat) (B : Option Addr) (m d : Nat) (w : World) (HV0 : Hid (CV 21 #[.agg #[.slice A n c]] (.bool false) w)) :
    Calls Tryz.prog 15 #[.agg #[.slice A n c], .slice B m d] w fun e w' => e = .returned (.tuple #[.bool false, .int .i64 1]) ∧ Below w.heap.size w w' := by
  go_enter Tryz.func15, Tryz.ntmps15
  go_upto_region 1 with fail
  generalize hX : w.alloc _ = X
  have HX : Hid (Below w.heap.size w X) := by rw [← hX]; exact below_alloc _ _
  have x0 : X.cell? ⟨w.heap.size, 0, none⟩ = some (.slice A n c) := by
    subst hX
    simp [go_sem]
  clear hX
  go_wp2_with fail
  (with_reducible refine (HV0.out.run HX.out).mono ?_)
  rintro e w1 ⟨rfl, hB1⟩
  have HX1 := Lib.hid (HX.out.trans (hB1.mono HX.out.size))
  clear x0 hB1
  go_wp2_with fail
  go_ret2
  exact ⟨rfl, HX1.out⟩

set_option maxRecDepth 100000 in
set_option maxHeartbeats 8000000 in
theorem rvstr_ok (A : Option Addr) (n c : Nat) (B : Option Addr) (m d : Nat) (r : Bool) (w : World) (HV0 : Hid (CV 21 #[.agg #[.slice A n c]] (.bool true) w)) (HV1 : Hid (CV 48 #[.agg #[.slice A n c], .slice B m d] (.bool r) w)) :
    Calls Tryz.prog 15 #[.agg #[.slice A n c], .slice B m d] w fun e w' => e = .returned (.tuple #[.bool r, .int .i64 0]) ∧ Below w.heap.size w w' := by
  go_enter Tryz.func15, Tryz.ntmps15
  go_upto_region 1 with fail
  generalize hX : w.alloc _ = X
  have HX : Hid (Below w.heap.size w X) := by rw [← hX]; exact below_alloc _ _
  have MX : Hid (MBx X w.heap.size A n c) := by rw [← hX]; exact MBx.new _ _ _ _ _
  clear hX
  obtain ⟨x0, -⟩ := MX.out
  go_wp2_with fail
  (with_reducible refine (HV0.out.run HX.out).mono ?_)
  rintro e w1 ⟨rfl, hB1⟩
  have HX1 := Lib.hid (HX.out.trans (hB1.mono HX.out.size))
  have MX1 := Lib.hid (MX.out.keep hB1)
  clear x0 hB1 MX HX
  obtain ⟨x0, -⟩ := MX1.out
  go_wp2_with fail
  (with_reducible refine (HV1.out.run HX1.out).mono ?_)
  rintro e w2 ⟨rfl, hB2⟩
  have HX2 := Lib.hid (HX1.out.trans (hB2.mono HX1.out.size))
  clear x0 hB2
  go_wp2_with fail
  go_ret2
  exact ⟨rfl, HX2.out⟩

end Go.Proofs.YtabaknkjcoibpaaGreatDoor
