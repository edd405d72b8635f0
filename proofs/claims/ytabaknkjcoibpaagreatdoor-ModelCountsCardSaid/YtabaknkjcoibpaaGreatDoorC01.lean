/- Counting strategies: the program's Count. The strategy that k strategies precede: the program's Nth. How many strategies a model has, as an integer of any size: the reference's Number. Two lists of the same whole numbers are the same: the reference's List. -/
import Derived.Test.YtabaknkjcoibpaaGreatDoorC00

namespace Go.Proofs.YtabaknkjcoibpaaGreatDoor
open Go.RowKit

/-- The product of the first k numbers. -/
def prodN (f : Nat → Nat) : Nat → Nat
  | 0 => 1
  | k + 1 => prodN f k * f k
theorem prodN_pos {f : Nat → Nat} : ∀ {k : Nat}, (∀ i, i < k → 1 ≤ f i) → 1 ≤ prodN f k
  | 0, _ => Nat.le_refl _
  | k + 1, h => Nat.mul_pos (prodN_pos (fun i hi => h i (by omega))) (h k (by omega))
theorem prodN_le {f : Nat → Nat} {k : Nat} : ∀ {n : Nat}, (∀ i, i < n → 1 ≤ f i) → k ≤ n → prodN f k ≤ prodN f n
  | 0, _, h => by rw [Nat.le_zero.1 h]; exact Nat.le_refl _
  | n + 1, hf, h => by
    rcases Nat.lt_or_ge n k with g | g
    · rw [show k = n + 1 by omega]; exact Nat.le_refl _
    · exact Nat.le_trans (prodN_le (fun i hi => hf i (by omega)) g) (Nat.le_mul_of_pos_right _ (hf n (by omega)))
/-- The numbers of choices. -/
def chN (st : Nat → StV) (i : Nat) : Nat := (st i).n
/-- What Count answers. -/
def cntT (n : Nat) (st : Nat → StV) : Int × Int := if prodN (chN st) n ≤ 1152921504606846976 then ((prodN (chN st) n : Nat), 0) else (0, 3)
theorem chN_pos {n : Nat} {st : Nat → StV} (H : moB n st = true) (i : Nat) (hi : i < n) : 1 ≤ chN st i := (stB_n (moB_st H hi)).1
theorem chN_le {n : Nat} {st : Nat → StV} (H : moB n st = true) (i : Nat) (hi : i < n) : chN st i ≤ 8 := (stB_n (moB_st H hi)).2.1

set_option maxRecDepth 100000 in
set_option maxHeartbeats 8000000 in
theorem mcount_ok (A : Option Addr) (n c : Nat) (st : Nat → StV) (w : World) (H : moB n st = true) (hA : Lst w A n st) (HV0 : Hid (CV 20 #[.agg #[.slice A n c]] (.bool true) w)) (r1 r2 : Int) (hr : Hid (cntT n st = (r1, r2))) :
    Calls Tryz.prog 33 #[.agg #[.slice A n c]] w fun e w' => e = .returned (.tuple #[.int .i64 r1, .int .i64 r2]) ∧ Below w.heap.size w w' := by
  have HA := Lib.hid hA
  have HM := Lib.hid H
  have HN := Lib.hid (moB_n H)
  clear hA H
  go_enter Tryz.func33, Tryz.ntmps33
  go_upto_region 1 with fail
  generalize hX : w.alloc _ = X
  have HX : Hid (Below w.heap.size w X) := by rw [← hX]; exact below_alloc _ _
  have MX : Hid (MBx X w.heap.size A n c) := by rw [← hX]; exact MBx.new _ _ _ _ _
  clear hX
  obtain ⟨x0, -⟩ := MX.out
  go_wp2_with fail
  (with_reducible refine (HV0.out.run HX.out).mono ?_)
  rintro e w1 ⟨rfl, hB1⟩
  have HX1 := Lib.hid (HX.out.trans (hB1.mono HX.out.size))
  have MX1 := Lib.hid (MX.out.keep hB1)
  clear x0 hB1 MX HX
  have HX := HX1
  obtain ⟨x0, -⟩ := MX1.out
  have hn : n ≤ 40 := HN.out.2
  go_wp2_with fail
  clear x0 HX1
  go_loopw [4, 13] (fun u i wr => ∃ k : Nat, Hid (k ≤ n) ∧ i = .int .i64 (k : Int) ∧ u = .int .i64 ((prodN (chN st) k : Nat) : Int) ∧ Hid (prodN (chN st) k ≤ 1152921504606846976) ∧ Hid (Below w.heap.size w wr)) (fun _ i _ => n - (intOf i).toNat)
  case atStart => exact ⟨0, Nat.zero_le _, rfl, rfl, Lib.hid (show 1 ≤ 1152921504606846976 by omega), HX⟩
  case round =>
    obtain ⟨k, hk, rfl, rfl, hp, hB⟩ := hrel
    by_cases hlt : k < n
    · obtain ⟨b, off, rfl, hb, hcells⟩ := (HA.out.keep hB.out).1 (by omega)
      obtain ⟨hc0, hc1, hc2⟩ := hcells k hlt
      dsimp only at hc0 hc1 hc2
      have hlt' : (k : Int) < (n : Int) := by omega
      have hn1 := chN_pos HM.out k hlt
      have hn2 := chN_le HM.out k hlt
      have HS := Lib.hid (show prodN (chN st) (k + 1) = prodN (chN st) k * (st k).n from rfl)
      have HPL := Lib.hid (prodN_le (chN_pos HM.out) (show k + 1 ≤ n by omega))
      unfold chN at hn1 hn2
      clear hcells
      generalize (st k).ow = tk at hc0
      generalize (st k).mrk = lk at hc1
      generalize (st k).A = Ak at hc2
      generalize (st k).n = nk at hc2 hn1 hn2 HS
      generalize (st k).c = ck at hc2
      have hpp := hp.out
      generalize hP : prodN (chN st) k = p at hpp HS
      have hne : (nk : Int) ≠ 0 := by omega
      have hq1 : (1152921504606846976 : Int).tdiv (nk : Int) = ((1152921504606846976 / nk : Nat) : Int) := rfl
      have hq3 : 1152921504606846976 / nk ≤ 1152921504606846976 := Nat.div_le_self _ _
      have HQ := Lib.hid (Nat.le_div_iff_mul_le (x := p) (y := 1152921504606846976) (show 0 < nk by omega))
      generalize 1152921504606846976 / nk = Q at hq1 hq3 HQ
      by_cases tt : Q < p
      · have HE : Hid (r1 = 0 ∧ r2 = 3) := by
          have hh := hr.out
          unfold cntT at hh
          rw [if_neg (by have h1 := HQ.out; have h2 := HPL.out; have h3 := HS.out; omega)] at hh
          exact Lib.hid ⟨(congrArg Prod.fst hh).symm, (congrArg Prod.snd hh).symm⟩
        clear HQ
        go_wp2_with fail
        go_ret2
        exact ⟨by rw [HE.out.1, HE.out.2]; rfl, hB.out.alloc hB.out.size _⟩
      · have hw : Hid (wrap64 ((p : Int) * (nk : Int)) = ((prodN (chN st) (k + 1) : Nat) : Int) ∧ prodN (chN st) (k + 1) ≤ 1152921504606846976) := by
          have h2 := HQ.out.1 (by omega)
          rw [HS.out]
          exact Lib.hid ⟨by rw [show (p : Int) * (nk : Int) = ((p * nk : Nat) : Int) from (Int.natCast_mul _ _).symm]; generalize p * nk = u at h2; exact IntWalk.wrap64_in (u : Int) (by omega), h2⟩
        clear HQ
        go_wp2_with fail
        exact ⟨⟨k + 1, Lib.hid (by omega), by rw [show ((k + 1 : Nat) : Int) = (k : Int) + 1 from by omega], congrArg (Value.int .i64) hw.out.1, Lib.hid hw.out.2, Lib.hid (hB.out.alloc hB.out.size _)⟩, by simp [intOf]; omega⟩
    · have hke : k = n := by have := hk.out; omega
      have HE : Hid (r1 = ((prodN (chN st) k : Nat) : Int) ∧ r2 = 0) := by
        have hh := hr.out
        unfold cntT at hh
        rw [hke]
        rw [if_pos (by rw [← hke]; exact hp.out)] at hh
        exact Lib.hid ⟨(congrArg Prod.fst hh).symm, (congrArg Prod.snd hh).symm⟩
      have hlt' : ¬ (k : Int) < (n : Int) := by omega
      clear hke
      go_wp2_with fail
      go_ret2
      exact ⟨by rw [HE.out.1, HE.out.2]; rfl, hB.out⟩

end Go.Proofs.YtabaknkjcoibpaaGreatDoor

namespace Go.Proofs.YtabaknkjcoibpaaGreatDoor
open Go.RowKit

/-- Block g is a row of n whole numbers. -/
def RowZ (w : World) (g n : Nat) (f : Nat → Int) : Prop := w.rowIs g 3 n (fun j => .int .i64 (f j))
theorem RowZ.cell {w : World} {g n : Nat} {f : Nat → Int} (h : RowZ w g n f) {i : Nat} (hi : i < n) : w.cell? ⟨g, i, none⟩ = some (.int .i64 (f i)) := World.rowIs.cell h hi
theorem RowZ.frozen {w : World} {g n : Nat} {f : Nat → Int} (h : RowZ w g n f) (i : Nat) : w.frozen? ⟨g, i, none⟩ = false := World.rowIs.frozen h i
theorem RowZ.lt {w : World} {g n : Nat} {f : Nat → Int} (h : RowZ w g n f) : g < w.heap.size := World.rowIs.lt h
theorem RowZ.set {w : World} {g n : Nat} {f : Nat → Int} (h : RowZ w g n f) (i : Nat) (x : Int) : RowZ (w.setCell ⟨g, i, none⟩ (.int .i64 x)) g n (fun j => if j = i then x else f j) := by
  refine World.rowIs.congr (World.rowIs.set h i _) fun j _ => ?_
  show (if j = i then Value.int .i64 x else Value.int .i64 (f j)) = Value.int .i64 (if j = i then x else f j)
  split <;> rfl
theorem RowZ.new (w : World) (n : Nat) : RowZ (w.alloc (.cells (madeCells #[.int .i64 0] n) 3)) w.heap.size n (fun _ => 0) := World.rowIs_made w _ n 3
theorem RowZ.lin {w : World} {g n : Nat} {f : Nat → Int} (h : RowZ w g n f) : Lin w (some ⟨g, 0, none⟩) n f :=
  fun _ => ⟨g, 0, rfl, h.lt, fun i hi => by rw [Nat.zero_add]; exact h.cell (by omega)⟩
theorem RowZ.block {w w' : World} {g n : Nat} {f : Nat → Int} (h : RowZ w g n f) (e : w'.heap[g]? = w.heap[g]?) : RowZ w' g n f := World.rowIs.of_block h e
theorem RowZ.keep {w w' : World} {g n : Nat} {f : Nat → Int} (h : RowZ w g n f) (hb : Below w.heap.size w w') : RowZ w' g n f := h.block (hb.block g h.lt)

theorem infoInt : (Tryz.prog.info? 3).map (fun i => (i.zero, i.size, i.bytes)) = some (some (.int .i64 0), 1, 8) := by kernel_rfl
theorem make_ints (n : Nat) (h : n ≤ 4000000) (w : World) :
    (Instr.makeSlice 25 (.int .i64 (n : Int)) (.int .i64 (n : Int))).run Tryz.prog w = .ok (.slice (some ⟨w.heap.size, 0, none⟩) n n) (w.alloc (.cells (madeCells #[.int .i64 0] n) 3)) :=
  run_make_row' (P := Tryz.prog) 25 3 (.int .i64 0) 8 Tryz.underlying25 infoInt rfl .i64 .i64 n (by omega) (by omega) w

/-- The product of s numbers from q on. -/
def sufP (f : Nat → Nat) : Nat → Nat → Nat
  | _, 0 => 1
  | q, s + 1 => f q * sufP f (q + 1) s
theorem prodN_sufP (f : Nat → Nat) : ∀ (s q : Nat), prodN f q * sufP f q s = prodN f (q + s)
  | 0, q => Nat.mul_one _
  | s + 1, q => by
    show prodN f q * (f q * sufP f (q + 1) s) = _
    rw [← Nat.mul_assoc, show q + (s + 1) = (q + 1) + s by omega, ← prodN_sufP f s (q + 1)]
    rfl
/-- What is left of K behind the places from q on. -/
def lef (f : Nat → Nat) (n K q : Nat) : Nat := K / sufP f q (n - q)
theorem lef_n (f : Nat → Nat) (n K : Nat) : lef f n K n = K := by
  unfold lef
  rw [Nat.sub_self]
  exact Nat.div_one _
theorem lef_step (f : Nat → Nat) {n K q : Nat} (h : q < n) : lef f n K q = lef f n K (q + 1) / f q := by
  unfold lef
  rw [show n - q = (n - (q + 1)) + 1 by omega, Nat.div_div_eq_div_mul]
  show K / (f q * _) = _
  rw [Nat.mul_comm]
theorem lef_zero (f : Nat → Nat) {n K : Nat} (hf : ∀ i, i < n → 1 ≤ f i) : 0 < lef f n K 0 ↔ prodN f n ≤ K := by
  unfold lef
  have e : sufP f 0 (n - 0) = prodN f n := by
    have := prodN_sufP f n 0
    rw [Nat.zero_add] at this
    rw [Nat.sub_zero, ← this]
    exact (Nat.one_mul _).symm
  rw [e, Nat.div_pos_iff]
  have := prodN_pos hf
  omega
/-- The choice at place i. -/
def dgN (f : Nat → Nat) (n K i : Nat) : Nat := lef f n K (i + 1) % f i

/-- A row that has been written from place q on. -/
def Wri (w : World) (g n : Nat) (f : Nat → Nat) (K q : Nat) : Prop := ∃ h, RowZ w g n h ∧ ∀ j, q ≤ j → j < n → h j = ((dgN f n K j : Nat) : Int)
theorem Wri.step {w : World} {g n K q : Nat} {f : Nat → Nat} (h : Wri w g n f K (q + 1)) : Wri (w.setCell ⟨g, q, none⟩ (.int .i64 ((dgN f n K q : Nat) : Int))) g n f K q := by
  obtain ⟨p, hr, hp⟩ := h
  refine ⟨_, hr.set q _, fun j h1 h2 => ?_⟩
  by_cases e : j = q
  · rw [if_pos e, e]
  · rw [if_neg e]
    exact hp j (by omega) h2
theorem Wri.lin {w : World} {g n K : Nat} {f : Nat → Nat} (h : Wri w g n f K 0) : Lin w (some ⟨g, 0, none⟩) n (fun i => ((dgN f n K i : Nat) : Int)) := by
  obtain ⟨p, hr, hp⟩ := h
  intro hn
  obtain ⟨b, off, e, hb, hc⟩ := hr.lin hn
  exact ⟨b, off, e, hb, fun i hi => by rw [hc i hi, hp i (Nat.zero_le _) hi]⟩

theorem MBx.far {w : World} {g k : Nat} {A : Option Addr} {n c : Nat} (h : MBx w g A n c) (hk : g < k) (o : Nat) (u : Value) : MBx (w.setCell ⟨k, o, none⟩ u) g A n c :=
  ⟨(World.cell?_of_block (w := w) (a := ⟨g, 0, none⟩) (Below.heap_setCell w ⟨k, o, none⟩ u g (Nat.ne_of_lt hk))).trans h.1, by rw [show (w.setCell ⟨k, o, none⟩ u).heap.size = w.heap.size by simp [World.setCell]]; exact h.2⟩
/-- A list of whole numbers has been returned, without an error. -/
def RetZs (n : Nat) (f : Nat → Int) (w : World) (e : Ending) (w' : World) : Prop := ∃ A, e = .returned (.tuple #[.slice A n n, .int .i64 0]) ∧ Lin w' A n f ∧ Below w.heap.size w w'

set_option maxRecDepth 100000 in
set_option maxHeartbeats 8000000 in
theorem mnth_ok (A : Option Addr) (n c K : Nat) (st : Nat → StV) (w : World) (hK : K ≤ 9223372036854775807) (H : moB n st = true) (hA : Lst w A n st) (HV0 : Hid (CV 20 #[.agg #[.slice A n c]] (.bool true) w)) (hlow : K < prodN (chN st) n) :
    Calls Tryz.prog 34 #[.agg #[.slice A n c], .int .i64 (K : Int)] w (RetZs n (fun i => ((dgN (chN st) n K i : Nat) : Int)) w) := by
  have HA := Lib.hid hA
  have HM := Lib.hid H
  have HN := Lib.hid (moB_n H)
  have HK := Lib.hid hK
  have HLO := Lib.hid hlow
  clear hA H hlow
  go_enter Tryz.func34, Tryz.ntmps34
  go_upto_region 1 with fail
  generalize hX : w.alloc _ = X
  have HX : Hid (Below w.heap.size w X) := by rw [← hX]; exact below_alloc _ _
  have MX : Hid (MBx X w.heap.size A n c) := by rw [← hX]; exact MBx.new _ _ _ _ _
  clear hX
  obtain ⟨x0, -⟩ := MX.out
  go_wp2_with fail
  (with_reducible refine (HV0.out.run HX.out).mono ?_)
  rintro e w1 ⟨rfl, hB1⟩
  have HX1 := Lib.hid (HX.out.trans (hB1.mono HX.out.size))
  have MX1 := Lib.hid (MX.out.keep hB1)
  clear x0 hB1 MX HX
  have HX := HX1
  obtain ⟨x0, -⟩ := MX1.out
  have hn : n ≤ 40 := HN.out.2
  have hmk := make_ints n (by omega)
  go_wp2_with fail
  clear hmk x0
  generalize hY : w1.alloc _ = Y
  have WY : Hid (Wri Y w1.heap.size n (chN st) K n) := by rw [← hY]; exact ⟨_, RowZ.new _ _, fun j h1 h2 => absurd h1 (by omega)⟩
  have HY : Hid (Below w.heap.size w Y) := by rw [← hY]; exact Lib.hid (HX1.out.trans ((below_alloc w1 _).mono HX1.out.size))
  have MY : Hid (MBx Y w.heap.size A n c) := by rw [← hY]; exact Lib.hid (MX1.out.keep (below_alloc _ _))
  have hG : w.heap.size < w1.heap.size := MX1.out.2
  clear hY HX HX1 MX1
  generalize w1.heap.size = G at WY hG ⊢
  go_loopw [1, 7] (fun u i wr => ∃ q : Nat, Hid (q ≤ n) ∧ i = .int .i64 ((q : Int) - 1) ∧ u = .int .i64 ((lef (chN st) n K q : Nat) : Int) ∧ Hid (lef (chN st) n K q ≤ 9223372036854775807) ∧ Hid (Wri wr G n (chN st) K q) ∧ Hid (MBx wr w.heap.size A n c) ∧ Hid (Below w.heap.size w wr)) (fun _ i _ => (intOf i + 1).toNat)
  case atStart => exact ⟨n, Nat.le_refl _, rfl, by rw [lef_n], Lib.hid (by rw [lef_n]; exact HK.out), WY, MY, HY⟩
  case round =>
    obtain ⟨q, hq, rfl, rfl, hl, hW, hM, hB⟩ := hrel
    clear WY MY HY
    obtain ⟨x0, -⟩ := hM.out
    cases q with
    | zero =>
      have h0 : lef (chN st) n K 0 = 0 := by
        have h1 := lef_zero (chN st) (K := K) (chN_pos HM.out)
        have h2 := HLO.out
        omega
      rw [h0]
      rw [show (((0 : Nat) : Int) - 1) = -1 from rfl, show ((0 : Nat) : Int) = 0 from rfl]
      go_wp2_with fail
      exact bodyPost_ret (v := .tuple #[.slice (some ⟨G, 0, none⟩) n n, .int .i64 0]) (by simp [results, Tryz.results34, go_sem, *]) rfl ⟨_, rfl, hW.out.lin, hB.out⟩
    | succ q =>
      rw [show (((q + 1 : Nat) : Int) - 1) = (q : Int) by omega]
      have hlt : q < n := hq.out
      obtain ⟨b, off, rfl, hb, hcells⟩ := (HA.out.keep hB.out).1 (by omega)
      obtain ⟨hc0, hc1, hc2⟩ := hcells q hlt
      dsimp only at hc0 hc1 hc2
      have hlt' : (q : Int) < (n : Int) := by omega
      have hn1 := chN_pos HM.out q hlt
      have hn2 := chN_le HM.out q hlt
      obtain ⟨p, hR, hp⟩ := hW.out
      have hcell := hR.cell hlt
      have hfr := hR.frozen q
      have HST := Lib.hid (lef_step (chN st) (K := K) hlt)
      have HDG := Lib.hid (show dgN (chN st) n K q = lef (chN st) n K (q + 1) % chN st q from rfl)
      have hle := hl.out
      have HWS := Lib.hid (Wri.step (q := q) hW.out)
      obtain ⟨hcs, hfrz, hshape⟩ := hR
      clear hcells hp
      unfold chN at hn1 hn2
      have HNK := Lib.hid (show chN st q = (st q).n from rfl)
      generalize (st q).A = Ak at hc2
      generalize (st q).n = nk at hc2 hn1 hn2 HNK
      generalize (st q).c = ck at hc2
      generalize (st q).ow = tk at hc0
      generalize (st q).mrk = lk at hc1
      generalize lef (chN st) n K (q + 1) = x at hle HST HDG
      have hne : (nk : Int) ≠ 0 := by omega
      have hq1 : (x : Int).tdiv (nk : Int) = ((x / nk : Nat) : Int) := rfl
      have hq2 : (x : Int).tmod (nk : Int) = ((x % nk : Nat) : Int) := rfl
      have HWR : Hid (wrap64 ((x : Int) / (nk : Int)) = ((lef (chN st) n K q : Nat) : Int) ∧ lef (chN st) n K q ≤ 9223372036854775807) := by
        have hq3 : x / nk ≤ x := Nat.div_le_self _ _
        rw [HST.out, HNK.out]
        refine Lib.hid ⟨?_, by omega⟩
        show wrap64 ((x / nk : Nat) : Int) = _
        generalize x / nk = u at hq3
        exact IntWalk.wrap64_in (u : Int) (by omega)
      rw [HDG.out, HNK.out] at HWS
      have hq3 : x / nk ≤ x := Nat.div_le_self _ _
      have hq4 : x % nk < nk := Nat.mod_lt _ (by omega)
      go_wp2_with fail
      exact ⟨⟨q, Lib.hid (by omega), rfl, congrArg (Value.int .i64) HWR.out.1, Lib.hid HWR.out.2, HWS, Lib.hid (hM.out.far hG _ _), Lib.hid (hB.out.setCell (Nat.le_of_lt hG) _)⟩, by simp [intOf]⟩

set_option maxRecDepth 100000 in
set_option maxHeartbeats 8000000 in
theorem mnth_far (A : Option Addr) (n c K : Nat) (st : Nat → StV) (w : World) (hK : K ≤ 9223372036854775807) (H : moB n st = true) (hA : Lst w A n st) (HV0 : Hid (CV 20 #[.agg #[.slice A n c]] (.bool true) w)) (hlow : prodN (chN st) n ≤ K) :
    Calls Tryz.prog 34 #[.agg #[.slice A n c], .int .i64 (K : Int)] w fun e w' => e = .returned (.tuple #[.slice none 0 0, .int .i64 6]) ∧ Below w.heap.size w w' := by
  have HA := Lib.hid hA
  have HM := Lib.hid H
  have HN := Lib.hid (moB_n H)
  have HK := Lib.hid hK
  have HLO := Lib.hid hlow
  clear hA H hlow
  go_enter Tryz.func34, Tryz.ntmps34
  go_upto_region 1 with fail
  generalize hX : w.alloc _ = X
  have HX : Hid (Below w.heap.size w X) := by rw [← hX]; exact below_alloc _ _
  have MX : Hid (MBx X w.heap.size A n c) := by rw [← hX]; exact MBx.new _ _ _ _ _
  clear hX
  obtain ⟨x0, -⟩ := MX.out
  go_wp2_with fail
  (with_reducible refine (HV0.out.run HX.out).mono ?_)
  rintro e w1 ⟨rfl, hB1⟩
  have HX1 := Lib.hid (HX.out.trans (hB1.mono HX.out.size))
  have MX1 := Lib.hid (MX.out.keep hB1)
  clear x0 hB1 MX HX
  have HX := HX1
  obtain ⟨x0, -⟩ := MX1.out
  have hn : n ≤ 40 := HN.out.2
  have hmk := make_ints n (by omega)
  go_wp2_with fail
  clear hmk x0
  generalize hY : w1.alloc _ = Y
  have WY : Hid (Wri Y w1.heap.size n (chN st) K n) := by rw [← hY]; exact ⟨_, RowZ.new _ _, fun j h1 h2 => absurd h1 (by omega)⟩
  have HY : Hid (Below w.heap.size w Y) := by rw [← hY]; exact Lib.hid (HX1.out.trans ((below_alloc w1 _).mono HX1.out.size))
  have MY : Hid (MBx Y w.heap.size A n c) := by rw [← hY]; exact Lib.hid (MX1.out.keep (below_alloc _ _))
  have hG : w.heap.size < w1.heap.size := MX1.out.2
  clear hY HX HX1 MX1
  generalize w1.heap.size = G at WY hG ⊢
  go_loopw [1, 7] (fun u i wr => ∃ q : Nat, Hid (q ≤ n) ∧ i = .int .i64 ((q : Int) - 1) ∧ u = .int .i64 ((lef (chN st) n K q : Nat) : Int) ∧ Hid (lef (chN st) n K q ≤ 9223372036854775807) ∧ Hid (Wri wr G n (chN st) K q) ∧ Hid (MBx wr w.heap.size A n c) ∧ Hid (Below w.heap.size w wr)) (fun _ i _ => (intOf i + 1).toNat)
  case atStart => exact ⟨n, Nat.le_refl _, rfl, by rw [lef_n], Lib.hid (by rw [lef_n]; exact HK.out), WY, MY, HY⟩
  case round =>
    obtain ⟨q, hq, rfl, rfl, hl, hW, hM, hB⟩ := hrel
    clear WY MY HY
    obtain ⟨x0, -⟩ := hM.out
    cases q with
    | zero =>
      have h0 : 0 < lef (chN st) n K 0 := (lef_zero (chN st) (K := K) (chN_pos HM.out)).2 HLO.out
      have h1 := hl.out
      generalize lef (chN st) n K 0 = x at h0 h1
      rw [show (((0 : Nat) : Int) - 1) = -1 from rfl]
      go_wp2_with fail
      go_ret2
      exact ⟨rfl, hB.out⟩
    | succ q =>
      rw [show (((q + 1 : Nat) : Int) - 1) = (q : Int) by omega]
      have hlt : q < n := hq.out
      obtain ⟨b, off, rfl, hb, hcells⟩ := (HA.out.keep hB.out).1 (by omega)
      obtain ⟨hc0, hc1, hc2⟩ := hcells q hlt
      dsimp only at hc0 hc1 hc2
      have hlt' : (q : Int) < (n : Int) := by omega
      have hn1 := chN_pos HM.out q hlt
      have hn2 := chN_le HM.out q hlt
      obtain ⟨p, hR, hp⟩ := hW.out
      have hcell := hR.cell hlt
      have hfr := hR.frozen q
      have HST := Lib.hid (lef_step (chN st) (K := K) hlt)
      have HDG := Lib.hid (show dgN (chN st) n K q = lef (chN st) n K (q + 1) % chN st q from rfl)
      have hle := hl.out
      have HWS := Lib.hid (Wri.step (q := q) hW.out)
      obtain ⟨hcs, hfrz, hshape⟩ := hR
      clear hcells hp
      unfold chN at hn1 hn2
      have HNK := Lib.hid (show chN st q = (st q).n from rfl)
      generalize (st q).A = Ak at hc2
      generalize (st q).n = nk at hc2 hn1 hn2 HNK
      generalize (st q).c = ck at hc2
      generalize (st q).ow = tk at hc0
      generalize (st q).mrk = lk at hc1
      generalize lef (chN st) n K (q + 1) = x at hle HST HDG
      have hne : (nk : Int) ≠ 0 := by omega
      have hq1 : (x : Int).tdiv (nk : Int) = ((x / nk : Nat) : Int) := rfl
      have hq2 : (x : Int).tmod (nk : Int) = ((x % nk : Nat) : Int) := rfl
      have HWR : Hid (wrap64 ((x : Int) / (nk : Int)) = ((lef (chN st) n K q : Nat) : Int) ∧ lef (chN st) n K q ≤ 9223372036854775807) := by
        have hq3 : x / nk ≤ x := Nat.div_le_self _ _
        rw [HST.out, HNK.out]
        refine Lib.hid ⟨?_, by omega⟩
        show wrap64 ((x / nk : Nat) : Int) = _
        generalize x / nk = u at hq3
        exact IntWalk.wrap64_in (u : Int) (by omega)
      rw [HDG.out, HNK.out] at HWS
      have hq3 : x / nk ≤ x := Nat.div_le_self _ _
      have hq4 : x % nk < nk := Nat.mod_lt _ (by omega)
      go_wp2_with fail
      exact ⟨⟨q, Lib.hid (by omega), rfl, congrArg (Value.int .i64) HWR.out.1, Lib.hid HWR.out.2, HWS, Lib.hid (hM.out.far hG _ _), Lib.hid (hB.out.setCell (Nat.le_of_lt hG) _)⟩, by simp [intOf]⟩

set_option maxRecDepth 100000 in
set_option maxHeartbeats 8000000 in
theorem mnth_neg (A : Option Addr) (n c : Nat) (K : Int) (w : World) (hK : K < 0) (_hK2 : -9223372036854775808 ≤ K) (HV0 : Hid (CV 20 #[.agg #[.slice A n c]] (.bool true) w)) :
    Calls Tryz.prog 34 #[.agg #[.slice A n c], .int .i64 K] w fun e w' => e = .returned (.tuple #[.slice none 0 0, .int .i64 6]) ∧ Below w.heap.size w w' := by
  go_enter Tryz.func34, Tryz.ntmps34
  go_upto_region 1 with fail
  generalize hX : w.alloc _ = X
  have HX : Hid (Below w.heap.size w X) := by rw [← hX]; exact below_alloc _ _
  have MX : Hid (MBx X w.heap.size A n c) := by rw [← hX]; exact MBx.new _ _ _ _ _
  clear hX
  obtain ⟨x0, -⟩ := MX.out
  go_wp2_with fail
  (with_reducible refine (HV0.out.run HX.out).mono ?_)
  rintro e w1 ⟨rfl, hB1⟩
  have HX1 := Lib.hid (HX.out.trans (hB1.mono HX.out.size))
  clear x0 hB1 MX HX
  go_wp2_with fail
  go_ret2
  exact ⟨rfl, HX1.out⟩

set_option maxRecDepth 100000 in
set_option maxHeartbeats 8000000 in
theorem mnth_bad (A : Option Addr) (n c : Nat) (K : Int) (w : World) (HV0 : Hid (CV 20 #[.agg #[.slice A n c]] (.bool false) w)) :
    Calls Tryz.prog 34 #[.agg #[.slice A n c], .int .i64 K] w fun e w' => e = .returned (.tuple #[.slice none 0 0, .int .i64 1]) ∧ Below w.heap.size w w' := by
  go_enter Tryz.func34, Tryz.ntmps34
  go_upto_region 1 with fail
  generalize hX : w.alloc _ = X
  have HX : Hid (Below w.heap.size w X) := by rw [← hX]; exact below_alloc _ _
  have MX : Hid (MBx X w.heap.size A n c) := by rw [← hX]; exact MBx.new _ _ _ _ _
  clear hX
  obtain ⟨x0, -⟩ := MX.out
  go_wp2_with fail
  (with_reducible refine (HV0.out.run HX.out).mono ?_)
  rintro e w1 ⟨rfl, hB1⟩
  have HX1 := Lib.hid (HX.out.trans (hB1.mono HX.out.size))
  clear x0 hB1 MX HX
  go_wp2_with fail
  go_ret2
  exact ⟨rfl, HX1.out⟩

set_option maxRecDepth 100000 in
set_option maxHeartbeats 8000000 in
theorem mcount_bad (A : Option Addr) (n c : Nat) (w : World) (HV0 : Hid (CV 20 #[.agg #[.slice A n c]] (.bool false) w)) :
    Calls Tryz.prog 33 #[.agg #[.slice A n c]] w fun e w' => e = .returned (.tuple #[.int .i64 0, .int .i64 1]) ∧ Below w.heap.size w w' := by
  go_enter Tryz.func33, Tryz.ntmps33
  go_upto_region 1 with fail
  generalize hX : w.alloc _ = X
  have HX : Hid (Below w.heap.size w X) := by rw [← hX]; exact below_alloc _ _
  have MX : Hid (MBx X w.heap.size A n c) := by rw [← hX]; exact MBx.new _ _ _ _ _
  clear hX
  obtain ⟨x0, -⟩ := MX.out
  go_wp2_with fail
  (with_reducible refine (HV0.out.run HX.out).mono ?_)
  rintro e w1 ⟨rfl, hB1⟩
  have HX1 := Lib.hid (HX.out.trans (hB1.mono HX.out.size))
  clear x0 hB1 MX HX
  go_wp2_with fail
  go_ret2
  exact ⟨rfl, HX1.out⟩

end Go.Proofs.YtabaknkjcoibpaaGreatDoor

namespace Go.Proofs.YtabaknkjcoibpaaGreatDoor
open Go.RowKit

theorem prodN_bound {f : Nat → Nat} : ∀ {k : Nat}, (∀ i, i < k → f i ≤ 8) → prodN f k ≤ 8 ^ k
  | 0, _ => Nat.le_refl _
  | k + 1, h => by
    rw [Nat.pow_succ]
    exact Nat.mul_le_mul (prodN_bound fun i hi => h i (by omega)) (h k (by omega))
theorem Bs_5 : 8 ^ 40 < Bs ^ 5 := by decide +kernel
theorem prodN_small {n : Nat} {st : Nat → StV} (H : moB n st = true) {k : Nat} (hk : k ≤ n) : prodN (chN st) k < Bs ^ 5 :=
  Nat.lt_of_le_of_lt (Nat.le_trans (prodN_bound fun i hi => chN_le H i (by omega)) (Nat.pow_le_pow_right (by omega) (show k ≤ 40 from Nat.le_trans hk (moB_n H).2))) Bs_5

/-- Behind a round. -/
def EndN (w : World) (r g : Nat) (z : Int) (wx : World) : Prop := BI wx g z ∧ W3 g wx ∧ W3 r wx ∧ Below w.heap.size w wx
theorem numEnd {w wr wx : World} {r g : Nat} {z : Int} {s : Int} {neg : Bool} {A : Option Addr} {n c : Nat} (hr0 : w.heap.size ≤ r) (hg : r < g) (hb : Below w.heap.size w wr) (hx : Below wr.heap.size wr wx) (hW : W3 g wx) (hr : W3 r wx) (h : RI wx s neg A n c z) :
    EndN w r g z (set3 wx g (.int .i64 s) (.bool neg) (.slice A n c)) :=
  ⟨⟨s, neg, A, n, c, (hW.set _ _ _).1, h.set_3 hW _ _ _⟩, (hW.set _ _ _).2, hr.set_3 (by omega) _ _ _, set3_below (hb.trans (hx.mono hb.size)) (by omega) _ _ _⟩

set_option maxRecDepth 100000 in
set_option maxHeartbeats 20000000 in
theorem number_any (A : Option Addr) (n c : Nat) (st : Nat → StV) (w : World) (H : moB n st = true) (hA : Lst w A n st) :
    Calls Tryz.prog 68 #[.agg #[.slice A n c]] w (RetV (.int ((prodN (chN st) n : Nat) : Int)) w) := by
  have H1 : Hid (∀ wx, Calls Tryz.prog 70 #[.int .i64 1] wx (RetV (.int 1) wx)) := fun wx => iv_of 1 wx (by omega) (by omega)
  have HA := Lib.hid hA
  have HM := Lib.hid H
  have hn : n ≤ 40 := (moB_n H).2
  clear hA H
  go_enter Tryz.func68, Tryz.ntmps68
  go_upto_region 1 with fail
  generalize hX : (World.alloc (World.alloc w _) _) = X
  have HX : Hid (Below w.heap.size w X ∧ MBx X w.heap.size A n c ∧ W3 (w.heap.size + 1) X) := by
    subst hX
    exact Lib.hid ⟨below_two w _ _, (MBx.new w _ _ _ _).keep (below_alloc _ _), W3.new _ _ _ _ (by simp)⟩
  clear hX
  go_wp2_with fail
  (with_reducible refine (H1.out X).mono ?_)
  rintro e w1 ⟨u, rfl, ⟨s0, neg0, A0, n0, c0, rfl, hR0⟩, hB1⟩
  have HX1 : Hid (Below w.heap.size w w1 ∧ MBx w1 w.heap.size A n c ∧ W3 (w.heap.size + 1) w1) := Lib.hid ⟨HX.out.1.trans (hB1.mono HX.out.1.size), HX.out.2.1.keep hB1, HX.out.2.2.keep hB1⟩
  clear hB1 HX H1
  go_upto_region 2 with fail
  generalize hY : w1.alloc _ = Y
  have HS0 : Hid (BI Y w1.heap.size ((prodN (chN st) 0 : Nat) : Int)) := by
    rw [← hY]
    exact Lib.hid ⟨s0, neg0, A0, n0, c0, B3.new _ _ _ _, hR0.keep (below_alloc _ _)⟩
  have HS1 : Hid (W3 w1.heap.size Y) := by rw [← hY]; exact Lib.hid (W3.new w1 _ _ _ rfl)
  have HS2 : Hid (W3 (w.heap.size + 1) Y) := by rw [← hY]; exact Lib.hid (HX1.out.2.2.keep (below_alloc _ _))
  have HS3 : Hid (Below w.heap.size w Y) := by rw [← hY]; exact Lib.hid (HX1.out.1.trans ((below_alloc w1 _).mono HX1.out.1.size))
  have HSM : Hid (MBx Y w.heap.size A n c) := by rw [← hY]; exact Lib.hid (HX1.out.2.1.keep (below_alloc _ _))
  have hgr : w.heap.size ≤ w.heap.size + 1 ∧ w.heap.size + 1 < w1.heap.size := ⟨Nat.le_succ _, HX1.out.2.2.bx.lt⟩
  clear hY hR0 HX1
  obtain ⟨x0, -⟩ := HSM.out
  go_wp2_with fail
  clear x0 HSM
  generalize hr0 : w.heap.size + 1 = r at *
  clear hr0
  generalize hg0 : w1.heap.size = g0 at *
  clear hg0
  go_loopw [10] (fun i wr => ∃ k : Nat, Hid (k ≤ n) ∧ i = .int .i64 (k : Int) ∧ Hid (BI wr g0 ((prodN (chN st) k : Nat) : Int)) ∧ Hid (W3 g0 wr) ∧ Hid (W3 r wr) ∧ Hid (Below w.heap.size w wr)) (fun i _ => n - (intOf i).toNat)
  case atStart => exact ⟨0, Nat.zero_le _, rfl, HS0, HS1, HS2, HS3⟩
  case round =>
    clear HS0 HS1 HS2 HS3
    obtain ⟨k, hk, rfl, hbi, hw3, hwr, hbel⟩ := hrel
    obtain ⟨s1, neg1, A1, n1, c1, ⟨k0, k1, k2, kl⟩, hR⟩ := hbi.out
    by_cases hlt : k < n
    · have hlt' : (k : Int) < (n : Int) := by omega
      obtain ⟨b, off, rfl, hb, hcells⟩ := (HA.out.keep hbel.out).1 (by omega)
      obtain ⟨hc0, hc1, hc2⟩ := hcells k hlt
      dsimp only at hc0 hc1 hc2
      have hn2 := chN_le HM.out k hlt
      have hp0 := prodN_small HM.out (show k ≤ n by omega)
      have HNK := Lib.hid (show chN st k = (st k).n from rfl)
      have HS := Lib.hid (show prodN (chN st) (k + 1) = prodN (chN st) k * chN st k from rfl)
      unfold chN at hn2
      clear hcells
      generalize (st k).A = Ak at hc2
      generalize (st k).n = nk at hc2 hn2 HNK
      generalize (st k).c = ck at hc2
      generalize (st k).ow = tk at hc0
      generalize (st k).mrk = lk at hc1
      obtain ⟨z1, hz⟩ : ∃ z1 : Int, ((prodN (chN st) (k + 1) : Nat) : Int) = z1 := ⟨_, rfl⟩
      have hz1 := Lib.hid hz
      obtain ⟨z0, hz0⟩ : ∃ z0 : Int, ((prodN (chN st) k : Nat) : Int) = z0 := ⟨_, rfl⟩
      have hzz : z0 * (nk : Int) = z1 := by rw [← hz, ← hz0, HS.out, HNK.out]; exact (Int.natCast_mul _ _).symm
      have HO : Hid (∀ wx, Calls Tryz.prog 70 #[.int .i64 (nk : Int)] wx (RetV (.int (nk : Int)) wx)) := fun wx => iv_of nk wx (by omega) (by omega)
      have HT : Hid (∀ wx u u', IV wx u z0 → IV wx u' (nk : Int) → Calls Tryz.prog 106 #[u, u'] wx (RetV (.int z1) wx)) := fun wx u u' h h' => by
        rw [← hzz]
        exact iv_times 5 h h' (by omega) (by rw [← hz0, Int.natAbs_natCast]; exact hp0) (by rw [Int.natAbs_natCast]; exact Nat.lt_of_le_of_lt hn2 (by decide +kernel))
      rw [hz0] at hR
      have HR0 := Lib.hid hR
      clear hR hbi hp0 hz hz0 hzz HS HNK
      go_upto_region 5 with fail
      generalize hZ0 : wr.alloc _ = Z
      have hBZ : Hid (Below wr.heap.size wr Z) := by rw [← hZ0]; exact below_alloc _ _
      have hZ : Hid (Below w.heap.size w Z) := Lib.hid (hbel.out.trans (hBZ.out.mono hbel.out.size))
      have HPB : Hid (PBx Z wr.heap.size Ak nk ck) := by rw [← hZ0]; exact Lib.hid (by simp [PBx, go_sem])
      have HR : Hid (RI Z s1 neg1 A1 n1 c1 z0) := Lib.hid (HR0.out.keep hBZ.out)
      have HBX : Hid (B3 g0 (.int .i64 s1) (.bool neg1) (.slice A1 n1 c1) Z) := Lib.hid (B3.keep ⟨k0, k1, k2, kl⟩ hBZ.out)
      have hw3 : Hid (W3 g0 Z) := Lib.hid (hw3.out.keep hBZ.out)
      have hwr : Hid (W3 r Z) := Lib.hid (hwr.out.keep hBZ.out)
      clear hZ0 HR0 hBZ k0 k1 k2 kl hc0 hc1 hc2 hbel
      generalize wr.heap.size = gs at *
      refine wp_region_flow_store 6 [14, 15, 16, 17, 18, 19] (fun i => 14 + i) (Below Z.heap.size Z) (EndN w r g0 z1) (Spl [.int z0, .val (.pointer (some ⟨gs, 2, none⟩)), .val (.slice Ak nk ck), .val (.int .i64 (nk : Int)), .int (nk : Int), .int z1]) (by kernel_rfl) (by kernel_rfl) (by kernel_rfl) (by kernel_rfl) (by kernel_rfl) (fun i j _ _ h => Nat.add_left_cancel (show 14 + i = 14 + j from h)) (by decide) (fun wx wy (h : Below Z.heap.size Z wx) hb => h.trans (hb.mono h.size)) Spl.keep ?_ ?_ ?_ ?_
      · exact Below.drew (Below.refl _ _)
      · intro i v wx o T' K hi ho hF hdep hin hout hK
        have q14 := hin 14 (by decide)
        have q15 := hin 15 (by decide)
        have q16 := hin 16 (by decide)
        have q17 := hin 17 (by decide)
        have q18 := hin 18 (by decide)
        have q19 := hin 19 (by decide)
        have sl3 : T'[3]? = some (.pointer (some ⟨g0, 0, none⟩)) := (hout 3 (by decide)).trans rfl
        have sl5 : T'[5]? = some (.pointer (some ⟨gs, 0, none⟩)) := (hout 5 (by decide)).trans rfl
        clear hin hout
        have HF := Lib.hid hF
        have HD := Lib.hid hdep
        clear hF hdep
        rcases (by omega : i = 0 ∨ i = 1 ∨ i = 2 ∨ i = 3 ∨ i = 4 ∨ i = 5) with rfl | rfl | rfl | rfl | rfl | rfl
        · obtain rfl := Option.some.inj ho
          obtain ⟨k0, k1, k2, -⟩ := HBX.out.keep HF.out
          have hP := (⟨s1, neg1, A1, n1, c1, rfl, HR.out.keep HF.out⟩ : IV wx (.agg #[.int .i64 s1, .bool neg1, .slice A1 n1 c1]) z0)
          clear q14 q15 q16 q17 q18 q19 sl5 ho hi
          go_simp
          exact hK _ _ (Below.refl _ _) hP
        · obtain rfl := Option.some.inj ho
          clear q14 q15 q16 q17 q18 q19 sl3 ho hi
          go_simp
          exact hK _ _ (Below.refl _ _) rfl
        · obtain rfl := Option.some.inj ho
          have e1 : v 15 = (.pointer (some ⟨gs, 2, none⟩)) := HD.out ⟨1, .data⟩ (by simp) rfl
          rw [e1] at q15
          obtain ⟨k0, -⟩ := HPB.out.keep HF.out
          have hP := (rfl : Value.slice Ak nk ck = .slice Ak nk ck)
          clear q14 q16 q17 q18 q19 sl3 sl5 ho hi
          go_simp
          exact hK _ _ (Below.refl _ _) hP
        · obtain rfl := Option.some.inj ho
          have e0 : v 16 = (.slice Ak nk ck) := HD.out ⟨2, .data⟩ (by simp) rfl
          rw [e0] at q16
          clear q14 q15 q17 q18 q19 sl3 sl5 ho hi
          go_simp
          exact hK _ _ (Below.refl _ _) rfl
        · obtain rfl := Option.some.inj ho
          have e0 : v 17 = (.int .i64 (nk : Int)) := HD.out ⟨3, .data⟩ (by simp) rfl
          rw [e0] at q17
          clear q14 q15 q16 q18 q19 sl3 sl5 ho hi
          go_simp
          (with_reducible refine (HO.out _).mono ?_)
          rintro e w2 ⟨u, rfl, hu, hB⟩
          exact hK _ _ hB hu
        · obtain rfl := Option.some.inj ho
          have h0 : IV wx (v 14) z0 := HD.out ⟨0, .data⟩ (by simp) rfl
          have h1 : IV wx (v 18) (nk : Int) := HD.out ⟨4, .data⟩ (by simp) rfl
          clear q15 q16 q17 q19 sl3 sl5 ho hi
          go_simp
          (with_reducible refine (HT.out _ _ _ h0 h1).mono ?_)
          rintro e w2 ⟨u, rfl, hu, hB⟩
          exact hK _ _ hB hu
      · intro v wx o T' K ho hF hall hin hout hK
        obtain rfl := Option.some.inj ho
        have sl3 : T'[3]? = some (.pointer (some ⟨g0, 0, none⟩)) := (hout 3 (by decide)).trans rfl
        have q19 := hin 19 (by decide)
        have h0 : IV wx (v 19) z1 := hall 5 (by decide)
        clear hin hout hall ho
        obtain ⟨s5, n5, A5, m5, c5, e5, h5⟩ := h0
        rw [e5] at q19
        have HRR := Lib.hid (numEnd hgr.1 hgr.2 hZ.out hF (hw3.out.keep hF) (hwr.out.keep hF) h5)
        obtain ⟨⟨o0, o1, o2, p0, p1, p2⟩, f0, f1, f2, -⟩ := hw3.out.keep hF
        clear e5 h5 hF
        go_simp
        exact hK _ HRR.out
      · intro v wx hE
        have HE := Lib.hid hE
        clear hE
        simp only [over, List.setIfInBounds_toArray, List.set_cons_zero, List.set_cons_succ]
        generalize v 14 = v14
        generalize v 15 = v15
        generalize v 16 = v16
        generalize v 17 = v17
        generalize v 18 = v18
        generalize v 19 = v19
        go_wp2_with fail
        exact ⟨⟨k + 1, Lib.hid (by omega), by rw [show ((k + 1 : Nat) : Int) = (k : Int) + 1 from by omega], Lib.hid (by show BI _ _ _; rw [hz1.out]; exact HE.out.1), Lib.hid HE.out.2.1, Lib.hid HE.out.2.2.1, Lib.hid HE.out.2.2.2⟩, by simp [intOf]; omega⟩
    · have hke : k = n := by have := hk.out; omega
      have hlt' : ¬ (k : Int) < (n : Int) := by omega
      rw [hke] at hR
      have HIV : Hid (IV (set3 wr r (.int .i64 s1) (.bool neg1) (.slice A1 n1 c1)) (.agg #[.int .i64 s1, .bool neg1, .slice A1 n1 c1]) ((prodN (chN st) n : Nat) : Int)) := Lib.hid ⟨s1, neg1, A1, n1, c1, rfl, hR.set_3 hwr.out _ _ _⟩
      have HBS := Lib.hid (set3_below hbel.out hgr.1 (.int .i64 s1) (.bool neg1) (.slice A1 n1 c1))
      clear hke hR hbi
      obtain ⟨⟨p0, p1, p2, x0, x1, x2⟩, y0, y1, y2, -⟩ := hwr.out
      go_wp2_with fail
      exact bodyPost_ret (v := .agg #[.int .i64 s1, .bool neg1, .slice A1 n1 c1]) (by simp [results, Tryz.results68, go_sem, *]) rfl ⟨_, rfl, HIV.out, HBS.out⟩

end Go.Proofs.YtabaknkjcoibpaaGreatDoor

namespace Go.Proofs.YtabaknkjcoibpaaGreatDoor
open Go.RowKit

set_option maxRecDepth 100000 in
set_option maxHeartbeats 8000000 in
theorem rlist_same (A B : Option Addr) (n ca cb : Nat) (f : Nat → Int) (w : World) (hn : n ≤ 1000000) (hA : Lin w A n f) (hB : Lin w B n f) :
    Calls Tryz.prog 35 #[.slice A n ca, .slice B n cb] w fun e w' => e = .returned (.bool true) ∧ Below w.heap.size w w' := by
  have HA := Lib.hid hA
  have HB := Lib.hid hB
  have hb : ((n : Int) != (n : Int)) = false := by simp
  clear hA hB
  go_enter Tryz.func35, Tryz.ntmps35
  go_wp2_with fail
  go_loopw [13] (fun i wr => ∃ k : Nat, Hid (k ≤ n) ∧ i = .int .i64 (k : Int) ∧ Hid (Drn w wr)) (fun i _ => n - (intOf i).toNat)
  case atStart => exact ⟨0, Nat.zero_le _, rfl, Lib.hid (Drn.refl _)⟩
  case round =>
    obtain ⟨k, hk, rfl, hD⟩ := hrel
    by_cases hlt : k < n
    · obtain ⟨b, off, rfl, hb1, hcA⟩ := HA.out.keep (hD.out.below _) (by omega)
      obtain ⟨b', off', rfl, hb2, hcB⟩ := HB.out.keep (hD.out.below _) (by omega)
      have a0 := hcA k hlt
      have a2 := hcB k hlt
      generalize f k = tk at *
      have hlt' : (k : Int) < (n : Int) := by omega
      clear hcA hcB
      go_wp2_with fail
      go_quiet (fail)
      go_wp2_with fail
      exact ⟨⟨k + 1, Lib.hid (by omega), by rw [show ((k + 1 : Nat) : Int) = (k : Int) + 1 from by omega], Lib.hid (hD.out.more _)⟩, by simp [intOf]; omega⟩
    · have hke : k = n := by have := hk.out; omega
      have hlt' : ¬ (k : Int) < (n : Int) := by omega
      clear hke
      go_wp2_with fail
      go_ret
      exact ⟨rfl, hD.out.below _⟩

end Go.Proofs.YtabaknkjcoibpaaGreatDoor
