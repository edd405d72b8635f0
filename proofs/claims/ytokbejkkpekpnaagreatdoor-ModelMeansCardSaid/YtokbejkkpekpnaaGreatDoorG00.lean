/- Two lists of the same whole numbers are the same: the reference's List. -/
import Derived.Test.YtokbejkkpekpnaaGreatDoorF35
import Derived.Test.YtokbejkkpekpnaaGreatDoorF33
import Derived.Test.YtokbejkkpekpnaaGreatDoorF37

set_option maxRecDepth 100000
set_option maxHeartbeats 40000000
namespace Go.Proofs.YtokbejkkpekpnaaGreatDoor
open Go.RowKit
def oneP (st : Nat → StV) (i : Nat) : Bool := !(decide ((1 : Int) < ((st i).n : Int)))
theorem chain_ok (A : Option Addr) (n c : Nat) (st : Nat → StV) (w : World) (hn : n ≤ 1000000) (hA : Lst w A n st) (HV0 : Hid (CV 20 #[.agg #[.slice A n c]] (.bool true) w)) :
    Calls Tryz.prog 16 #[.agg #[.slice A n c]] w fun e w' => e = .returned (.tuple #[.bool (allB (oneP st) n), .int .i64 0]) ∧ Below w.heap.size w w' := by
  have HA := Lib.hid hA
  clear hA
  go_enter Tryz.func16, Tryz.ntmps16
  go_upto_region 1 with fail
  generalize hX : w.alloc _ = X
  have HX : Hid (Below w.heap.size w X) := by rw [← hX]; exact below_alloc _ _
  have MX : Hid (MBx X w.heap.size A n c) := by rw [← hX]; exact MBx.new _ _ _ _ _
  clear hX
  obtain ⟨x0, -⟩ := MX.out
  go_wp2_with fail
  (with_reducible refine (HV0.out.run HX.out).mono ?_)
  rintro e w1 ⟨rfl, hB1⟩
  have HX1 := Lib.hid (HX.out.trans (hB1.mono HX.out.size))
  have MX1 := Lib.hid (MX.out.keep hB1)
  clear x0 hB1 MX HX
  have HX := HX1
  obtain ⟨x0, -⟩ := MX1.out
  go_wp2_with fail
  clear x0 HX1
  go_loopw [12] (fun i wr => ∃ k : Nat, Hid (k ≤ n) ∧ i = .int .i64 (k : Int) ∧ Hid (∀ j, j < k → oneP st j = true) ∧ Hid (Below w.heap.size w wr)) (fun i _ => n - (intOf i).toNat)
  case atStart => exact ⟨0, Nat.zero_le _, rfl, Lib.hid (fun i hi => absurd hi (by omega)), HX⟩
  case round =>
    obtain ⟨k, hk, rfl, hv, hB⟩ := hrel
    by_cases hlt : k < n
    · obtain ⟨b, off, rfl, hb, hcells⟩ := (HA.out.keep hB.out).1 (by omega)
      obtain ⟨hc0, hc1, hc2⟩ := hcells k hlt
      dsimp only at hc0 hc1 hc2
      have hlt' : (k : Int) < (n : Int) := by omega
      have HC := Lib.hid (Eq.refl (oneP st k))
      clear hcells
      generalize htk : (st k).ow = tk at hc0
      generalize hlk : (st k).mrk = lk at hc1
      generalize hAk : (st k).A = Ak at hc2
      generalize hnk : (st k).n = nk at hc2
      generalize hck : (st k).c = ck at hc2
      have HNK := Lib.hid hnk
      clear htk hlk hAk hck hnk
      cases tt : decide ((1 : Int) < (nk : Int)) with
      | true =>
        have HE : Hid (allB (oneP st) n = false) := allB_false hlt (by simp only [oneP]; rw [HNK.out, tt]; rfl)
        go_wp2_with fail
        go_ret2
        exact ⟨by rw [HE.out]; rfl, hB.out.alloc hB.out.size _⟩
      | false =>
        have HV : Hid (∀ i, i < k + 1 → oneP st i = true) := fun i hi => by
          by_cases e : i = k
          · subst e
            simp only [oneP]
            rw [HNK.out, tt]
            rfl
          · exact hv.out i (by omega)
        clear hv HC
        go_wp2_with fail
        exact ⟨⟨k + 1, Lib.hid (by omega), by rw [show ((k + 1 : Nat) : Int) = (k : Int) + 1 from by omega], HV, Lib.hid (hB.out.alloc hB.out.size _)⟩, by simp [intOf]; omega⟩
    · have hke : k = n := by have := hk.out; omega
      have HE : Hid (allB (oneP st) n = true) := allB_true (fun i hi => hv.out i (by omega))
      have hlt' : ¬ (k : Int) < (n : Int) := by omega
      clear hke hv
      go_wp2_with fail
      go_ret2
      exact ⟨by rw [HE.out]; rfl, hB.out⟩
theorem vstr_ok (A : Option Addr) (n c : Nat) (B : Option Addr) (m d : Nat) (r : Bool) (w : World) (HV0 : Hid (CV 20 #[.agg #[.slice A n c]] (.bool true) w)) (HV1 : Hid (CV 52 #[.agg #[.slice A n c], .slice B m d] (.bool r) w)) :
    Calls Tryz.prog 19 #[.agg #[.slice A n c], .slice B m d] w fun e w' => e = .returned (.tuple #[.bool r, .int .i64 0]) ∧ Below w.heap.size w w' := by
  go_enter Tryz.func19, Tryz.ntmps19
  go_upto_region 1 with fail
  generalize hX : w.alloc _ = X
  have HX : Hid (Below w.heap.size w X) := by rw [← hX]; exact below_alloc _ _
  have MX : Hid (MBx X w.heap.size A n c) := by rw [← hX]; exact MBx.new _ _ _ _ _
  clear hX
  obtain ⟨x0, -⟩ := MX.out
  go_wp2_with fail
  (with_reducible refine (HV0.out.run HX.out).mono ?_)
  rintro e w1 ⟨rfl, hB1⟩
  have HX1 := Lib.hid (HX.out.trans (hB1.mono HX.out.size))
  have MX1 := Lib.hid (MX.out.keep hB1)
  clear x0 hB1 MX HX
  obtain ⟨x0, -⟩ := MX1.out
  go_wp2_with fail
  (with_reducible refine (HV1.out.run HX1.out).mono ?_)
  rintro e w2 ⟨rfl, hB2⟩
  have HX2 := Lib.hid (HX1.out.trans (hB2.mono HX1.out.size))
  clear x0 hB2
  go_wp2_with fail
  go_ret2
  exact ⟨rfl, HX2.out⟩
def prodN (f : Nat → Nat) : Nat → Nat
  | 0 => 1
  | k + 1 => prodN f k * f k
theorem prodN_pos {f : Nat → Nat} : ∀ {k : Nat}, (∀ i, i < k → 1 ≤ f i) → 1 ≤ prodN f k
  | 0, _ => Nat.le_refl _
  | k + 1, h => Nat.mul_pos (prodN_pos (fun i hi => h i (by omega))) (h k (by omega))
theorem prodN_le {f : Nat → Nat} {k : Nat} : ∀ {n : Nat}, (∀ i, i < n → 1 ≤ f i) → k ≤ n → prodN f k ≤ prodN f n
  | 0, _, h => by rw [Nat.le_zero.1 h]; exact Nat.le_refl _
  | n + 1, hf, h => by
    rcases Nat.lt_or_ge n k with g | g
    · rw [show k = n + 1 by omega]; exact Nat.le_refl _
    · exact Nat.le_trans (prodN_le (fun i hi => hf i (by omega)) g) (Nat.le_mul_of_pos_right _ (hf n (by omega)))
def chN (st : Nat → StV) (i : Nat) : Nat := (st i).n
def cntT (n : Nat) (st : Nat → StV) : Int × Int := if prodN (chN st) n ≤ 1152921504606846976 then ((prodN (chN st) n : Nat), 0) else (0, 3)
theorem chN_pos {n : Nat} {st : Nat → StV} (H : moB n st = true) (i : Nat) (hi : i < n) : 1 ≤ chN st i := (stB_n (moB_st H hi)).1
theorem chN_le {n : Nat} {st : Nat → StV} (H : moB n st = true) (i : Nat) (hi : i < n) : chN st i ≤ 8 := (stB_n (moB_st H hi)).2.1
theorem mcount_ok (A : Option Addr) (n c : Nat) (st : Nat → StV) (w : World) (H : moB n st = true) (hA : Lst w A n st) (HV0 : Hid (CV 20 #[.agg #[.slice A n c]] (.bool true) w)) (r1 r2 : Int) (hr : Hid (cntT n st = (r1, r2))) :
    Calls Tryz.prog 33 #[.agg #[.slice A n c]] w fun e w' => e = .returned (.tuple #[.int .i64 r1, .int .i64 r2]) ∧ Below w.heap.size w w' := by
  have HA := Lib.hid hA
  have HM := Lib.hid H
  have HN := Lib.hid (moB_n H)
  clear hA H
  go_enter Tryz.func33, Tryz.ntmps33
  go_upto_region 1 with fail
  generalize hX : w.alloc _ = X
  have HX : Hid (Below w.heap.size w X) := by rw [← hX]; exact below_alloc _ _
  have MX : Hid (MBx X w.heap.size A n c) := by rw [← hX]; exact MBx.new _ _ _ _ _
  clear hX
  obtain ⟨x0, -⟩ := MX.out
  go_wp2_with fail
  (with_reducible refine (HV0.out.run HX.out).mono ?_)
  rintro e w1 ⟨rfl, hB1⟩
  have HX1 := Lib.hid (HX.out.trans (hB1.mono HX.out.size))
  have MX1 := Lib.hid (MX.out.keep hB1)
  clear x0 hB1 MX HX
  have HX := HX1
  obtain ⟨x0, -⟩ := MX1.out
  have hn : n ≤ 40 := HN.out.2
  go_wp2_with fail
  clear x0 HX1
  go_loopw [4, 13] (fun u i wr => ∃ k : Nat, Hid (k ≤ n) ∧ i = .int .i64 (k : Int) ∧ u = .int .i64 ((prodN (chN st) k : Nat) : Int) ∧ Hid (prodN (chN st) k ≤ 1152921504606846976) ∧ Hid (Below w.heap.size w wr)) (fun _ i _ => n - (intOf i).toNat)
  case atStart => exact ⟨0, Nat.zero_le _, rfl, rfl, Lib.hid (show 1 ≤ 1152921504606846976 by omega), HX⟩
  case round =>
    obtain ⟨k, hk, rfl, rfl, hp, hB⟩ := hrel
    by_cases hlt : k < n
    · obtain ⟨b, off, rfl, hb, hcells⟩ := (HA.out.keep hB.out).1 (by omega)
      obtain ⟨hc0, hc1, hc2⟩ := hcells k hlt
      dsimp only at hc0 hc1 hc2
      have hlt' : (k : Int) < (n : Int) := by omega
      have hn1 := chN_pos HM.out k hlt
      have hn2 := chN_le HM.out k hlt
      have HS := Lib.hid (show prodN (chN st) (k + 1) = prodN (chN st) k * (st k).n from rfl)
      have HPL := Lib.hid (prodN_le (chN_pos HM.out) (show k + 1 ≤ n by omega))
      unfold chN at hn1 hn2
      clear hcells
      generalize (st k).ow = tk at hc0
      generalize (st k).mrk = lk at hc1
      generalize (st k).A = Ak at hc2
      generalize (st k).n = nk at hc2 hn1 hn2 HS
      generalize (st k).c = ck at hc2
      have hpp := hp.out
      generalize hP : prodN (chN st) k = p at hpp HS
      have hne : (nk : Int) ≠ 0 := by omega
      have hq1 : (1152921504606846976 : Int).tdiv (nk : Int) = ((1152921504606846976 / nk : Nat) : Int) := rfl
      have hq3 : 1152921504606846976 / nk ≤ 1152921504606846976 := Nat.div_le_self _ _
      have HQ := Lib.hid (Nat.le_div_iff_mul_le (x := p) (y := 1152921504606846976) (show 0 < nk by omega))
      generalize 1152921504606846976 / nk = Q at hq1 hq3 HQ
      by_cases tt : Q < p
      · have HE : Hid (r1 = 0 ∧ r2 = 3) := by
          have hh := hr.out
          unfold cntT at hh
          rw [if_neg (by have h1 := HQ.out; have h2 := HPL.out; have h3 := HS.out; omega)] at hh
          exact Lib.hid ⟨(congrArg Prod.fst hh).symm, (congrArg Prod.snd hh).symm⟩
        clear HQ
        go_wp2_with fail
        go_ret2
        exact ⟨by rw [HE.out.1, HE.out.2]; rfl, hB.out.alloc hB.out.size _⟩
      · have hw : Hid (wrap64 ((p : Int) * (nk : Int)) = ((prodN (chN st) (k + 1) : Nat) : Int) ∧ prodN (chN st) (k + 1) ≤ 1152921504606846976) := by
          have h2 := HQ.out.1 (by omega)
          rw [HS.out]
          exact Lib.hid ⟨by rw [show (p : Int) * (nk : Int) = ((p * nk : Nat) : Int) from (Int.natCast_mul _ _).symm]; generalize p * nk = u at h2; exact IntWalk.wrap64_in (u : Int) (by omega), h2⟩
        clear HQ
        go_wp2_with fail
        exact ⟨⟨k + 1, Lib.hid (by omega), by rw [show ((k + 1 : Nat) : Int) = (k : Int) + 1 from by omega], congrArg (Value.int .i64) hw.out.1, Lib.hid hw.out.2, Lib.hid (hB.out.alloc hB.out.size _)⟩, by simp [intOf]; omega⟩
    · have hke : k = n := by have := hk.out; omega
      have HE : Hid (r1 = ((prodN (chN st) k : Nat) : Int) ∧ r2 = 0) := by
        have hh := hr.out
        unfold cntT at hh
        rw [hke]
        rw [if_pos (by rw [← hke]; exact hp.out)] at hh
        exact Lib.hid ⟨(congrArg Prod.fst hh).symm, (congrArg Prod.snd hh).symm⟩
      have hlt' : ¬ (k : Int) < (n : Int) := by omega
      clear hke
      go_wp2_with fail
      go_ret2
      exact ⟨by rw [HE.out.1, HE.out.2]; rfl, hB.out⟩
def RowZ (w : World) (g n : Nat) (f : Nat → Int) : Prop := w.rowIs g 3 n (fun j => .int .i64 (f j))
theorem RowZ.cell {w : World} {g n : Nat} {f : Nat → Int} (h : RowZ w g n f) {i : Nat} (hi : i < n) : w.cell? ⟨g, i, none⟩ = some (.int .i64 (f i)) := World.rowIs.cell h hi
theorem RowZ.frozen {w : World} {g n : Nat} {f : Nat → Int} (h : RowZ w g n f) (i : Nat) : w.frozen? ⟨g, i, none⟩ = false := World.rowIs.frozen h i
theorem RowZ.lt {w : World} {g n : Nat} {f : Nat → Int} (h : RowZ w g n f) : g < w.heap.size := World.rowIs.lt h
theorem RowZ.set {w : World} {g n : Nat} {f : Nat → Int} (h : RowZ w g n f) (i : Nat) (x : Int) : RowZ (w.setCell ⟨g, i, none⟩ (.int .i64 x)) g n (fun j => if j = i then x else f j) := by
  refine World.rowIs.congr (World.rowIs.set h i _) fun j _ => ?_
  show (if j = i then Value.int .i64 x else Value.int .i64 (f j)) = Value.int .i64 (if j = i then x else f j)
  split <;> rfl
theorem RowZ.new (w : World) (n : Nat) : RowZ (w.alloc (.cells (madeCells #[.int .i64 0] n) 3)) w.heap.size n (fun _ => 0) := World.rowIs_made w _ n 3
theorem RowZ.lin {w : World} {g n : Nat} {f : Nat → Int} (h : RowZ w g n f) : Lin w (some ⟨g, 0, none⟩) n f :=
  fun _ => ⟨g, 0, rfl, h.lt, fun i hi => by rw [Nat.zero_add]; exact h.cell (by omega)⟩
theorem infoInt : (Tryz.prog.info? 3).map (fun i => (i.zero, i.size, i.bytes)) = some (some (.int .i64 0), 1, 8) := by kernel_rfl
theorem make_ints (n : Nat) (h : n ≤ 4000000) (w : World) :
    (Instr.makeSlice 25 (.int .i64 (n : Int)) (.int .i64 (n : Int))).run Tryz.prog w = .ok (.slice (some ⟨w.heap.size, 0, none⟩) n n) (w.alloc (.cells (madeCells #[.int .i64 0] n) 3)) :=
  run_make_row' (P := Tryz.prog) 25 3 (.int .i64 0) 8 Tryz.underlying25 infoInt rfl .i64 .i64 n (by omega) (by omega) w
def sufP (f : Nat → Nat) : Nat → Nat → Nat
  | _, 0 => 1
  | q, s + 1 => f q * sufP f (q + 1) s
theorem prodN_sufP (f : Nat → Nat) : ∀ (s q : Nat), prodN f q * sufP f q s = prodN f (q + s)
  | 0, q => Nat.mul_one _
  | s + 1, q => by
    show prodN f q * (f q * sufP f (q + 1) s) = _
    rw [← Nat.mul_assoc, show q + (s + 1) = (q + 1) + s by omega, ← prodN_sufP f s (q + 1)]
    rfl
def lef (f : Nat → Nat) (n K q : Nat) : Nat := K / sufP f q (n - q)
theorem lef_n (f : Nat → Nat) (n K : Nat) : lef f n K n = K := by
  unfold lef
  rw [Nat.sub_self]
  exact Nat.div_one _
theorem lef_step (f : Nat → Nat) {n K q : Nat} (h : q < n) : lef f n K q = lef f n K (q + 1) / f q := by
  unfold lef
  rw [show n - q = (n - (q + 1)) + 1 by omega, Nat.div_div_eq_div_mul]
  show K / (f q * _) = _
  rw [Nat.mul_comm]
theorem lef_zero (f : Nat → Nat) {n K : Nat} (hf : ∀ i, i < n → 1 ≤ f i) : 0 < lef f n K 0 ↔ prodN f n ≤ K := by
  unfold lef
  have e : sufP f 0 (n - 0) = prodN f n := by
    have := prodN_sufP f n 0
    rw [Nat.zero_add] at this
    rw [Nat.sub_zero, ← this]
    exact (Nat.one_mul _).symm
  rw [e, Nat.div_pos_iff]
  have := prodN_pos hf
  omega
def dgN (f : Nat → Nat) (n K i : Nat) : Nat := lef f n K (i + 1) % f i
def Wri (w : World) (g n : Nat) (f : Nat → Nat) (K q : Nat) : Prop := ∃ h, RowZ w g n h ∧ ∀ j, q ≤ j → j < n → h j = ((dgN f n K j : Nat) : Int)
theorem Wri.step {w : World} {g n K q : Nat} {f : Nat → Nat} (h : Wri w g n f K (q + 1)) : Wri (w.setCell ⟨g, q, none⟩ (.int .i64 ((dgN f n K q : Nat) : Int))) g n f K q := by
  obtain ⟨p, hr, hp⟩ := h
  refine ⟨_, hr.set q _, fun j h1 h2 => ?_⟩
  by_cases e : j = q
  · rw [if_pos e, e]
  · rw [if_neg e]
    exact hp j (by omega) h2
theorem Wri.lin {w : World} {g n K : Nat} {f : Nat → Nat} (h : Wri w g n f K 0) : Lin w (some ⟨g, 0, none⟩) n (fun i => ((dgN f n K i : Nat) : Int)) := by
  obtain ⟨p, hr, hp⟩ := h
  intro hn
  obtain ⟨b, off, e, hb, hc⟩ := hr.lin hn
  exact ⟨b, off, e, hb, fun i hi => by rw [hc i hi, hp i (Nat.zero_le _) hi]⟩
theorem MBx.far {w : World} {g k : Nat} {A : Option Addr} {n c : Nat} (h : MBx w g A n c) (hk : g < k) (o : Nat) (u : Value) : MBx (w.setCell ⟨k, o, none⟩ u) g A n c :=
  ⟨(World.cell?_of_block (w := w) (a := ⟨g, 0, none⟩) (Below.heap_setCell w ⟨k, o, none⟩ u g (Nat.ne_of_lt hk))).trans h.1, by rw [show (w.setCell ⟨k, o, none⟩ u).heap.size = w.heap.size by simp [World.setCell]]; exact h.2⟩
def RetZs (n : Nat) (f : Nat → Int) (w : World) (e : Ending) (w' : World) : Prop := ∃ A, e = .returned (.tuple #[.slice A n n, .int .i64 0]) ∧ Lin w' A n f ∧ Below w.heap.size w w'
theorem mnth_ok (A : Option Addr) (n c K : Nat) (st : Nat → StV) (w : World) (hK : K ≤ 9223372036854775807) (H : moB n st = true) (hA : Lst w A n st) (HV0 : Hid (CV 20 #[.agg #[.slice A n c]] (.bool true) w)) (hlow : K < prodN (chN st) n) :
    Calls Tryz.prog 34 #[.agg #[.slice A n c], .int .i64 (K : Int)] w (RetZs n (fun i => ((dgN (chN st) n K i : Nat) : Int)) w) := by
  have HA := Lib.hid hA
  have HM := Lib.hid H
  have HN := Lib.hid (moB_n H)
  have HK := Lib.hid hK
  have HLO := Lib.hid hlow
  clear hA H hlow
  go_enter Tryz.func34, Tryz.ntmps34
  go_upto_region 1 with fail
  generalize hX : w.alloc _ = X
  have HX : Hid (Below w.heap.size w X) := by rw [← hX]; exact below_alloc _ _
  have MX : Hid (MBx X w.heap.size A n c) := by rw [← hX]; exact MBx.new _ _ _ _ _
  clear hX
  obtain ⟨x0, -⟩ := MX.out
  go_wp2_with fail
  (with_reducible refine (HV0.out.run HX.out).mono ?_)
  rintro e w1 ⟨rfl, hB1⟩
  have HX1 := Lib.hid (HX.out.trans (hB1.mono HX.out.size))
  have MX1 := Lib.hid (MX.out.keep hB1)
  clear x0 hB1 MX HX
  have HX := HX1
  obtain ⟨x0, -⟩ := MX1.out
  have hn : n ≤ 40 := HN.out.2
  have hmk := make_ints n (by omega)
  go_wp2_with fail
  clear hmk x0
  generalize hY : w1.alloc _ = Y
  have WY : Hid (Wri Y w1.heap.size n (chN st) K n) := by rw [← hY]; exact ⟨_, RowZ.new _ _, fun j h1 h2 => absurd h1 (by omega)⟩
  have HY : Hid (Below w.heap.size w Y) := by rw [← hY]; exact Lib.hid (HX1.out.trans ((below_alloc w1 _).mono HX1.out.size))
  have MY : Hid (MBx Y w.heap.size A n c) := by rw [← hY]; exact Lib.hid (MX1.out.keep (below_alloc _ _))
  have hG : w.heap.size < w1.heap.size := MX1.out.2
  clear hY HX HX1 MX1
  generalize w1.heap.size = G at WY hG ⊢
  go_loopw [1, 7] (fun u i wr => ∃ q : Nat, Hid (q ≤ n) ∧ i = .int .i64 ((q : Int) - 1) ∧ u = .int .i64 ((lef (chN st) n K q : Nat) : Int) ∧ Hid (lef (chN st) n K q ≤ 9223372036854775807) ∧ Hid (Wri wr G n (chN st) K q) ∧ Hid (MBx wr w.heap.size A n c) ∧ Hid (Below w.heap.size w wr)) (fun _ i _ => (intOf i + 1).toNat)
  case atStart => exact ⟨n, Nat.le_refl _, rfl, by rw [lef_n], Lib.hid (by rw [lef_n]; exact HK.out), WY, MY, HY⟩
  case round =>
    obtain ⟨q, hq, rfl, rfl, hl, hW, hM, hB⟩ := hrel
    clear WY MY HY
    obtain ⟨x0, -⟩ := hM.out
    cases q with
    | zero =>
      have h0 : lef (chN st) n K 0 = 0 := by
        have h1 := lef_zero (chN st) (K := K) (chN_pos HM.out)
        have h2 := HLO.out
        omega
      rw [h0]
      rw [show (((0 : Nat) : Int) - 1) = -1 from rfl, show ((0 : Nat) : Int) = 0 from rfl]
      go_wp2_with fail
      exact bodyPost_ret (v := .tuple #[.slice (some ⟨G, 0, none⟩) n n, .int .i64 0]) (by simp [results, Tryz.results34, go_sem, *]) rfl ⟨_, rfl, hW.out.lin, hB.out⟩
    | succ q =>
      rw [show (((q + 1 : Nat) : Int) - 1) = (q : Int) by omega]
      have hlt : q < n := hq.out
      obtain ⟨b, off, rfl, hb, hcells⟩ := (HA.out.keep hB.out).1 (by omega)
      obtain ⟨hc0, hc1, hc2⟩ := hcells q hlt
      dsimp only at hc0 hc1 hc2
      have hlt' : (q : Int) < (n : Int) := by omega
      have hn1 := chN_pos HM.out q hlt
      have hn2 := chN_le HM.out q hlt
      obtain ⟨p, hR, hp⟩ := hW.out
      have hcell := hR.cell hlt
      have hfr := hR.frozen q
      have HST := Lib.hid (lef_step (chN st) (K := K) hlt)
      have HDG := Lib.hid (show dgN (chN st) n K q = lef (chN st) n K (q + 1) % chN st q from rfl)
      have hle := hl.out
      have HWS := Lib.hid (Wri.step (q := q) hW.out)
      obtain ⟨hcs, hfrz, hshape⟩ := hR
      clear hcells hp
      unfold chN at hn1 hn2
      have HNK := Lib.hid (show chN st q = (st q).n from rfl)
      generalize (st q).A = Ak at hc2
      generalize (st q).n = nk at hc2 hn1 hn2 HNK
      generalize (st q).c = ck at hc2
      generalize (st q).ow = tk at hc0
      generalize (st q).mrk = lk at hc1
      generalize lef (chN st) n K (q + 1) = x at hle HST HDG
      have hne : (nk : Int) ≠ 0 := by omega
      have hq1 : (x : Int).tdiv (nk : Int) = ((x / nk : Nat) : Int) := rfl
      have hq2 : (x : Int).tmod (nk : Int) = ((x % nk : Nat) : Int) := rfl
      have HWR : Hid (wrap64 ((x : Int) / (nk : Int)) = ((lef (chN st) n K q : Nat) : Int) ∧ lef (chN st) n K q ≤ 9223372036854775807) := by
        have hq3 : x / nk ≤ x := Nat.div_le_self _ _
        rw [HST.out, HNK.out]
        refine Lib.hid ⟨?_, by omega⟩
        show wrap64 ((x / nk : Nat) : Int) = _
        generalize x / nk = u at hq3
        exact IntWalk.wrap64_in (u : Int) (by omega)
      rw [HDG.out, HNK.out] at HWS
      have hq3 : x / nk ≤ x := Nat.div_le_self _ _
      have hq4 : x % nk < nk := Nat.mod_lt _ (by omega)
      go_wp2_with fail
      exact ⟨⟨q, Lib.hid (by omega), rfl, congrArg (Value.int .i64) HWR.out.1, Lib.hid HWR.out.2, HWS, Lib.hid (hM.out.far hG _ _), Lib.hid (hB.out.setCell (Nat.le_of_lt hG) _)⟩, by simp [intOf]⟩
theorem mnth_far (A : Option Addr) (n c K : Nat) (st : Nat → StV) (w : World) (hK : K ≤ 9223372036854775807) (H : moB n st = true) (hA : Lst w A n st) (HV0 : Hid (CV 20 #[.agg #[.slice A n c]] (.bool true) w)) (hlow : prodN (chN st) n ≤ K) :
    Calls Tryz.prog 34 #[.agg #[.slice A n c], .int .i64 (K : Int)] w fun e w' => e = .returned (.tuple #[.slice none 0 0, .int .i64 6]) ∧ Below w.heap.size w w' := by
  have HA := Lib.hid hA
  have HM := Lib.hid H
  have HN := Lib.hid (moB_n H)
  have HK := Lib.hid hK
  have HLO := Lib.hid hlow
  clear hA H hlow
  go_enter Tryz.func34, Tryz.ntmps34
  go_upto_region 1 with fail
  generalize hX : w.alloc _ = X
  have HX : Hid (Below w.heap.size w X) := by rw [← hX]; exact below_alloc _ _
  have MX : Hid (MBx X w.heap.size A n c) := by rw [← hX]; exact MBx.new _ _ _ _ _
  clear hX
  obtain ⟨x0, -⟩ := MX.out
  go_wp2_with fail
  (with_reducible refine (HV0.out.run HX.out).mono ?_)
  rintro e w1 ⟨rfl, hB1⟩
  have HX1 := Lib.hid (HX.out.trans (hB1.mono HX.out.size))
  have MX1 := Lib.hid (MX.out.keep hB1)
  clear x0 hB1 MX HX
  have HX := HX1
  obtain ⟨x0, -⟩ := MX1.out
  have hn : n ≤ 40 := HN.out.2
  have hmk := make_ints n (by omega)
  go_wp2_with fail
  clear hmk x0
  generalize hY : w1.alloc _ = Y
  have WY : Hid (Wri Y w1.heap.size n (chN st) K n) := by rw [← hY]; exact ⟨_, RowZ.new _ _, fun j h1 h2 => absurd h1 (by omega)⟩
  have HY : Hid (Below w.heap.size w Y) := by rw [← hY]; exact Lib.hid (HX1.out.trans ((below_alloc w1 _).mono HX1.out.size))
  have MY : Hid (MBx Y w.heap.size A n c) := by rw [← hY]; exact Lib.hid (MX1.out.keep (below_alloc _ _))
  have hG : w.heap.size < w1.heap.size := MX1.out.2
  clear hY HX HX1 MX1
  generalize w1.heap.size = G at WY hG ⊢
  go_loopw [1, 7] (fun u i wr => ∃ q : Nat, Hid (q ≤ n) ∧ i = .int .i64 ((q : Int) - 1) ∧ u = .int .i64 ((lef (chN st) n K q : Nat) : Int) ∧ Hid (lef (chN st) n K q ≤ 9223372036854775807) ∧ Hid (Wri wr G n (chN st) K q) ∧ Hid (MBx wr w.heap.size A n c) ∧ Hid (Below w.heap.size w wr)) (fun _ i _ => (intOf i + 1).toNat)
  case atStart => exact ⟨n, Nat.le_refl _, rfl, by rw [lef_n], Lib.hid (by rw [lef_n]; exact HK.out), WY, MY, HY⟩
  case round =>
    obtain ⟨q, hq, rfl, rfl, hl, hW, hM, hB⟩ := hrel
    clear WY MY HY
    obtain ⟨x0, -⟩ := hM.out
    cases q with
    | zero =>
      have h0 : 0 < lef (chN st) n K 0 := (lef_zero (chN st) (K := K) (chN_pos HM.out)).2 HLO.out
      have h1 := hl.out
      generalize lef (chN st) n K 0 = x at h0 h1
      rw [show (((0 : Nat) : Int) - 1) = -1 from rfl]
      go_wp2_with fail
      go_ret2
      exact ⟨rfl, hB.out⟩
    | succ q =>
      rw [show (((q + 1 : Nat) : Int) - 1) = (q : Int) by omega]
      have hlt : q < n := hq.out
      obtain ⟨b, off, rfl, hb, hcells⟩ := (HA.out.keep hB.out).1 (by omega)
      obtain ⟨hc0, hc1, hc2⟩ := hcells q hlt
      dsimp only at hc0 hc1 hc2
      have hlt' : (q : Int) < (n : Int) := by omega
      have hn1 := chN_pos HM.out q hlt
      have hn2 := chN_le HM.out q hlt
      obtain ⟨p, hR, hp⟩ := hW.out
      have hcell := hR.cell hlt
      have hfr := hR.frozen q
      have HST := Lib.hid (lef_step (chN st) (K := K) hlt)
      have HDG := Lib.hid (show dgN (chN st) n K q = lef (chN st) n K (q + 1) % chN st q from rfl)
      have hle := hl.out
      have HWS := Lib.hid (Wri.step (q := q) hW.out)
      obtain ⟨hcs, hfrz, hshape⟩ := hR
      clear hcells hp
      unfold chN at hn1 hn2
      have HNK := Lib.hid (show chN st q = (st q).n from rfl)
      generalize (st q).A = Ak at hc2
      generalize (st q).n = nk at hc2 hn1 hn2 HNK
      generalize (st q).c = ck at hc2
      generalize (st q).ow = tk at hc0
      generalize (st q).mrk = lk at hc1
      generalize lef (chN st) n K (q + 1) = x at hle HST HDG
      have hne : (nk : Int) ≠ 0 := by omega
      have hq1 : (x : Int).tdiv (nk : Int) = ((x / nk : Nat) : Int) := rfl
      have hq2 : (x : Int).tmod (nk : Int) = ((x % nk : Nat) : Int) := rfl
      have HWR : Hid (wrap64 ((x : Int) / (nk : Int)) = ((lef (chN st) n K q : Nat) : Int) ∧ lef (chN st) n K q ≤ 9223372036854775807) := by
        have hq3 : x / nk ≤ x := Nat.div_le_self _ _
        rw [HST.out, HNK.out]
        refine Lib.hid ⟨?_, by omega⟩
        show wrap64 ((x / nk : Nat) : Int) = _
        generalize x / nk = u at hq3
        exact IntWalk.wrap64_in (u : Int) (by omega)
      rw [HDG.out, HNK.out] at HWS
      have hq3 : x / nk ≤ x := Nat.div_le_self _ _
      have hq4 : x % nk < nk := Nat.mod_lt _ (by omega)
      go_wp2_with fail
      exact ⟨⟨q, Lib.hid (by omega), rfl, congrArg (Value.int .i64) HWR.out.1, Lib.hid HWR.out.2, HWS, Lib.hid (hM.out.far hG _ _), Lib.hid (hB.out.setCell (Nat.le_of_lt hG) _)⟩, by simp [intOf]⟩
theorem mnth_neg (A : Option Addr) (n c : Nat) (K : Int) (w : World) (hK : K < 0) (_hK2 : -9223372036854775808 ≤ K) (HV0 : Hid (CV 20 #[.agg #[.slice A n c]] (.bool true) w)) :
    Calls Tryz.prog 34 #[.agg #[.slice A n c], .int .i64 K] w fun e w' => e = .returned (.tuple #[.slice none 0 0, .int .i64 6]) ∧ Below w.heap.size w w' := by
  go_enter Tryz.func34, Tryz.ntmps34
  go_upto_region 1 with fail
  generalize hX : w.alloc _ = X
  have HX : Hid (Below w.heap.size w X) := by rw [← hX]; exact below_alloc _ _
  have MX : Hid (MBx X w.heap.size A n c) := by rw [← hX]; exact MBx.new _ _ _ _ _
  clear hX
  obtain ⟨x0, -⟩ := MX.out
  go_wp2_with fail
  (with_reducible refine (HV0.out.run HX.out).mono ?_)
  rintro e w1 ⟨rfl, hB1⟩
  have HX1 := Lib.hid (HX.out.trans (hB1.mono HX.out.size))
  clear x0 hB1 MX HX
  go_wp2_with fail
  go_ret2
  exact ⟨rfl, HX1.out⟩
theorem mnth_bad (A : Option Addr) (n c : Nat) (K : Int) (w : World) (HV0 : Hid (CV 20 #[.agg #[.slice A n c]] (.bool false) w)) :
    Calls Tryz.prog 34 #[.agg #[.slice A n c], .int .i64 K] w fun e w' => e = .returned (.tuple #[.slice none 0 0, .int .i64 1]) ∧ Below w.heap.size w w' := by
  go_enter Tryz.func34, Tryz.ntmps34
  go_upto_region 1 with fail
  generalize hX : w.alloc _ = X
  have HX : Hid (Below w.heap.size w X) := by rw [← hX]; exact below_alloc _ _
  have MX : Hid (MBx X w.heap.size A n c) := by rw [← hX]; exact MBx.new _ _ _ _ _
  clear hX
  obtain ⟨x0, -⟩ := MX.out
  go_wp2_with fail
  (with_reducible refine (HV0.out.run HX.out).mono ?_)
  rintro e w1 ⟨rfl, hB1⟩
  have HX1 := Lib.hid (HX.out.trans (hB1.mono HX.out.size))
  clear x0 hB1 MX HX
  go_wp2_with fail
  go_ret2
  exact ⟨rfl, HX1.out⟩
end Go.Proofs.YtokbejkkpekpnaaGreatDoor
