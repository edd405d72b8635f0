/- Differences and multiples of lists of digits of the reference. -/
import Derived.Test.YtmfnpipmbpnfbaaGreatDoorF06

set_option maxRecDepth 100000
set_option maxHeartbeats 40000000
namespace Go.Proofs.YtmfnpipmbpnfbaaGreatDoor
open Go.RowKit
def DifR (w : World) (la lb : List Nat) (o : Value) (c i : Value) (wr : World) : Prop :=
  ∃ (k r : Nat) (l : List Nat), k ≤ la.length ∧ i = .int .i64 (k : Int) ∧ c = .int .i64 (-(r : Int)) ∧ r ≤ 1 ∧ Own wr w.heap.size o l ∧ Dl l ∧ l.length = k ∧
    val l + val (lb.take k) = val (la.take k) + Bs ^ k * r ∧ Below w.heap.size w wr
theorem DifR.start (w : World) (la lb : List Nat) : DifR w la lb (.slice none 0 0) (.int .i64 0) (.int .i64 0) w :=
  ⟨0, 0, [], Nat.zero_le _, rfl, rfl, by omega, Own.nil w _, Dl.nil, rfl, by simp [val], Below.refl _ _⟩
theorem DifR.next {w w' : World} {la lb l : List Nat} {k r d r' : Nat} {o c i : Value} {C I : Int} (hl : l.length = k) (hd : Dl l) (hv : val l + val (lb.take k) = val (la.take k) + Bs ^ k * r) (hbel : Below w.heap.size w w') (hk : k < la.length)
    (hr' : r' ≤ 1) (hdd : d < Bs) (he : d + lb.getD k 0 + r = la.getD k 0 + Bs * r') (hown : Own w' w.heap.size o (l ++ [d])) (hc : c = .int .i64 C) (hC : C = -(r' : Int)) (hi : i = .int .i64 I) (hI : I = ((k + 1 : Nat) : Int)) : DifR w la lb o c i w' := by
  subst hc hC hi hI
  refine ⟨k + 1, r', l ++ [d], hk, rfl, rfl, hr', hown, hd.snoc hdd, by simp [hl], ?_, hbel⟩
  rw [val_snoc, hl, val_take_succ, val_take_succ, Nat.pow_succ, Nat.mul_assoc]
  have h1 : Bs ^ k * (d + lb.getD k 0 + r) = Bs ^ k * (la.getD k 0 + Bs * r') := by rw [he]
  simp only [Nat.mul_add] at h1
  omega
theorem dif_any (A B : Option Addr) (n m ca cb : Nat) (la lb : List Nat) (w : World) (hn : n ≤ 300000) (hm : m ≤ n) (hla : la.length = n) (hlb : lb.length = m) (hA : Lc w A la) (hB : Lc w B lb) (ha : Dl la) (hb : Dl lb) (hle : val lb ≤ val la) :
    Calls Tryz.prog 157 #[.slice A n ca, .slice B m cb] w (RetL (fun l => l.length = n ∧ val l + val lb = val la) w) := by
  have HLA := Lib.hid hla
  have HLB := Lib.hid hlb
  have HDA := Lib.hid ha
  have HDB := Lib.hid hb
  have HLE := Lib.hid hle
  clear hla hlb ha hb hle
  go_enter Tryz.func157, Tryz.ntmps157
  go_wp2_with fail
  go_loopw [5, 6, 10] (fun o c i wr => DifR w la lb o c i wr) (fun _ _ i _ => n - (intOf i).toNat)
  case atStart => exact DifR.start w la lb
  case round =>
    obtain ⟨k, r, l, hk, rfl, rfl, hr, hown, hd, hl, hv, hbel⟩ := hrel
    have hkn : k ≤ n := by rw [HLA.out] at hk; exact hk
    have hll : l.length ≤ 1000000 := by omega
    have hsz := hbel.size
    have HBL := Lib.hid hbel
    have HV := Lib.hid hv
    have HD := Lib.hid hd
    have HL := Lib.hid hl
    clear hk hbel hv hd hl
    by_cases h1 : k < n
    · obtain ⟨x, hx⟩ : ∃ x, la.getD k 0 = x := ⟨_, rfl⟩
      obtain ⟨y, hy⟩ : ∃ y, lb.getD k 0 = y := ⟨_, rfl⟩
      have hx1 : x < 1073741824 := by have := HDA.out.getD k; rw [Bs_eq] at this; omega
      have hy1 : y < 1073741824 := by have := HDB.out.getD k; rw [Bs_eq] at this; omega
      have HX := Lib.hid hx
      have HY := Lib.hid hy
      clear hx hy
      obtain ⟨b, off, rfl, -, hcells⟩ := hA.keep HBL.out (by rw [HLA.out]; omega)
      have c1 := hcells k (by rw [HLA.out]; exact h1)
      clear hcells
      rw [HX.out] at c1
      by_cases h2 : k < m
      · obtain ⟨b', off', rfl, -, hcells⟩ := hB.keep HBL.out (by rw [HLB.out]; omega)
        have c2 := hcells k (by rw [HLB.out]; exact h2)
        clear hcells
        rw [HY.out] at c2
        by_cases h3 : -(r : Int) + (x : Int) - (y : Int) < 0
        · have h4 := decide_eq_true h3
          go_wp2_with (at_builtin; refine wpList_push rfl _ _ rfl w.heap.size _ l rfl (hown.alloc _) wr.heap.size rfl _ (cell_new _ _ _) (x + 1073741824 - r - y) (by omega) hll (by simp; omega) (fun v' w' hown' hkeep => ?_))
          have HO := Lib.hid hown'
          have HKp := Lib.hid (hkeep w (HBL.out.alloc hsz _))
          clear hown' hkeep
          go_wp2_with fail
          go_roundw
          case rel => exact DifR.next (d := x + 1073741824 - r - y) (r' := 1) HL.out HD.out HV.out HKp.out (by rw [HLA.out]; exact h1) (by omega) (by rw [Bs_eq]; omega) (by rw [HX.out, HY.out, Bs_eq]; omega) HO.out rfl (by omega) rfl (by omega)
          case measure => simp [intOf]; omega
        · have h4 := decide_eq_false h3
          go_wp2_with (at_builtin; refine wpList_push rfl _ _ rfl w.heap.size _ l rfl (hown.alloc _) wr.heap.size rfl _ (cell_new _ _ _) (x - r - y) (by omega) hll (by simp; omega) (fun v' w' hown' hkeep => ?_))
          have HO := Lib.hid hown'
          have HKp := Lib.hid (hkeep w (HBL.out.alloc hsz _))
          clear hown' hkeep
          go_wp2_with fail
          go_roundw
          case rel => exact DifR.next (d := x - r - y) (r' := 0) HL.out HD.out HV.out HKp.out (by rw [HLA.out]; exact h1) (by omega) (by rw [Bs_eq]; omega) (by rw [HX.out, HY.out, Bs_eq]; omega) HO.out rfl (by omega) rfl (by omega)
          case measure => simp [intOf]; omega
      · obtain rfl : y = 0 := by rw [← HY.out]; exact getD_out (by rw [HLB.out]; omega)
        by_cases h3 : -(r : Int) + (x : Int) < 0
        · have h4 := decide_eq_true h3
          go_wp2_with (at_builtin; refine wpList_push rfl _ _ rfl w.heap.size _ l rfl (hown.alloc _) wr.heap.size rfl _ (cell_new _ _ _) (x + 1073741824 - r - 0) (by omega) hll (by simp; omega) (fun v' w' hown' hkeep => ?_))
          have HO := Lib.hid hown'
          have HKp := Lib.hid (hkeep w (HBL.out.alloc hsz _))
          clear hown' hkeep
          go_wp2_with fail
          go_roundw
          case rel => exact DifR.next (d := x + 1073741824 - r - 0) (r' := 1) HL.out HD.out HV.out HKp.out (by rw [HLA.out]; exact h1) (by omega) (by rw [Bs_eq]; omega) (by rw [HX.out, HY.out, Bs_eq]; omega) HO.out rfl (by omega) rfl (by omega)
          case measure => simp [intOf]; omega
        · have h4 := decide_eq_false h3
          go_wp2_with (at_builtin; refine wpList_push rfl _ _ rfl w.heap.size _ l rfl (hown.alloc _) wr.heap.size rfl _ (cell_new _ _ _) (x - r - 0) (by omega) hll (by simp; omega) (fun v' w' hown' hkeep => ?_))
          have HO := Lib.hid hown'
          have HKp := Lib.hid (hkeep w (HBL.out.alloc hsz _))
          clear hown' hkeep
          go_wp2_with fail
          go_roundw
          case rel => exact DifR.next (d := x - r - 0) (r' := 0) HL.out HD.out HV.out HKp.out (by rw [HLA.out]; exact h1) (by omega) (by rw [Bs_eq]; omega) (by rw [HX.out, HY.out, Bs_eq]; omega) HO.out rfl (by omega) rfl (by omega)
          case measure => simp [intOf]; omega
    · obtain rfl : k = n := by omega
      go_wp2_with fail
      go_ret
      have h4 := HV.out
      rw [val_take_all (l := la) (by rw [HLA.out]; omega), val_take_all (l := lb) (by rw [HLB.out]; omega)] at h4
      have h5 := val_lt HD.out
      rw [HL.out] at h5
      have h6 := HLE.out
      have h7 : r = 0 := by
        rcases Nat.eq_zero_or_pos r with h | h
        · exact h
        · have : Bs ^ k * 1 ≤ Bs ^ k * r := Nat.mul_le_mul_left _ h
          omega
      refine ⟨_, l, rfl, hown.ls HD.out, ⟨HL.out, ?_⟩, HBL.out⟩
      rw [h7, Nat.mul_zero, Nat.add_zero] at h4
      exact h4
def RetO (P : List Nat → Prop) (w : World) (e : Ending) (w' : World) : Prop := ∃ v l, e = .returned v ∧ Own w' w.heap.size v l ∧ Dl l ∧ P l ∧ Below w.heap.size w w'
def ScaR (w : World) (la : List Nat) (n : Nat) (o : Value) (c i : Value) (wr : World) : Prop :=
  ∃ (k r : Nat) (l : List Nat), k ≤ la.length ∧ i = .int .i64 (k : Int) ∧ c = .int .i64 (r : Int) ∧ r < Bs ∧ Own wr w.heap.size o l ∧ Dl l ∧ l.length = k ∧
    val l + Bs ^ k * r = val (la.take k) * n ∧ Below w.heap.size w wr
theorem ScaR.start (w : World) (la : List Nat) (n : Nat) : ScaR w la n (.slice none 0 0) (.int .i64 0) (.int .i64 0) w :=
  ⟨0, 0, [], Nat.zero_le _, rfl, rfl, Bs_pos, Own.nil w _, Dl.nil, rfl, by simp [val], Below.refl _ _⟩
theorem sca_bd {x n : Nat} (hx : x < Bs) (hn : n < Bs) : x * n ≤ 1152921502459363329 := by
  have h1 : x * n ≤ 1073741823 * 1073741823 := Nat.mul_le_mul (by rw [Bs_eq] at hx; omega) (by rw [Bs_eq] at hn; omega)
  omega
theorem ScaR.next {w w' : World} {la l : List Nat} {n k r : Nat} {o c i : Value} {C I : Int} (ha : Dl la) (hn : n < Bs) (hr : r < Bs) (hl : l.length = k) (hd : Dl l) (hv : val l + Bs ^ k * r = val (la.take k) * n) (hbel : Below w.heap.size w w') (hk : k < la.length)
    (hown : Own w' w.heap.size o (l ++ [(r + la.getD k 0 * n) % Bs])) (hc : c = .int .i64 C) (hC : C = (((r + la.getD k 0 * n) / Bs : Nat) : Int)) (hi : i = .int .i64 I) (hI : I = ((k + 1 : Nat) : Int)) : ScaR w la n o c i w' := by
  subst hc hC hi hI
  have h1 := sca_bd (ha.getD k) hn
  have h3 := Nat.div_add_mod (r + la.getD k 0 * n) Bs
  refine ⟨k + 1, _, _, hk, rfl, rfl, ?_, hown, hd.snoc (Nat.mod_lt _ Bs_pos), by simp [hl], ?_, hbel⟩
  · rw [Bs_eq] at hr ⊢
    omega
  · rw [val_snoc, hl, val_take_succ, Nat.pow_succ, Nat.mul_assoc, Nat.add_assoc, ← Nat.mul_add, Nat.add_comm (_ % _), h3, Nat.mul_add, Nat.add_mul, ← Nat.add_assoc, hv, Nat.mul_assoc]
theorem sca_own (A : Option Addr) (n ca q : Nat) (la : List Nat) (w : World) (hn : n ≤ 300000) (hq : q < 1073741824) (hla : la.length = n) (hA : Lc w A la) (ha : Dl la) :
    Calls Tryz.prog 223 #[.slice A n ca, .int .i64 (q : Int)] w (RetO (fun l => l.length = n + 1 ∧ val l = val la * q) w) := by
  have HLA := Lib.hid hla
  have HDA := Lib.hid ha
  clear hla ha
  go_enter Tryz.func223, Tryz.ntmps223
  go_wp2_with fail
  go_loopw [5, 6, 11] (fun o c i wr => ScaR w la q o c i wr) (fun _ _ i _ => n - (intOf i).toNat)
  case atStart => exact ScaR.start w la q
  case round =>
    obtain ⟨k, r, l, hk, rfl, rfl, hr, hown, hd, hl, hv, hbel⟩ := hrel
    have hkn : k ≤ n := by rw [HLA.out] at hk; exact hk
    have hr1 : r < 1073741824 := by rw [Bs_eq] at hr; exact hr
    have hll : l.length ≤ 1000000 := by omega
    have hsz := hbel.size
    have HBL := Lib.hid hbel
    have HV := Lib.hid hv
    have HD := Lib.hid hd
    have HL := Lib.hid hl
    clear hk hbel hv hd hl hr
    by_cases h1 : k < n
    · obtain ⟨x, hx⟩ : ∃ x, la.getD k 0 = x := ⟨_, rfl⟩
      have hx1 : x < 1073741824 := by have := HDA.out.getD k; rw [Bs_eq] at this; omega
      have HX := Lib.hid hx
      clear hx
      obtain ⟨t, ht⟩ : ∃ t, x * q = t := ⟨_, rfl⟩
      have ht1 : t ≤ 1152921502459363329 := by rw [← ht]; exact sca_bd (by rw [Bs_eq]; exact hx1) (by rw [Bs_eq]; exact hq)
      have hxq : (x : Int) * (q : Int) = (t : Int) := by rw [← ht]; exact (Int.natCast_mul x q).symm
      have HT := Lib.hid ht
      clear ht
      obtain ⟨b, off, rfl, -, hcells⟩ := hA.keep HBL.out (by rw [HLA.out]; omega)
      have c1 := hcells k (by rw [HLA.out]; exact h1)
      clear hcells
      rw [HX.out] at c1
      go_wp2_with (at_builtin; refine wpList_push rfl _ _ rfl w.heap.size _ l rfl (hown.alloc _) wr.heap.size rfl _ (cell_new _ _ _) ((r + t) % Bs) (by rw [Bs_eq]; omega) hll (by simp; omega) (fun v' w' hown' hkeep => ?_))
      have HO := Lib.hid hown'
      have HKp := Lib.hid (hkeep w (HBL.out.alloc hsz _))
      clear hown' hkeep
      go_wp2_with fail
      go_roundw
      case rel => exact ScaR.next HDA.out (by rw [Bs_eq]; exact hq) (by rw [Bs_eq]; exact hr1) HL.out HD.out HV.out HKp.out (by rw [HLA.out]; exact h1) (by rw [HX.out, HT.out]; exact HO.out) rfl (by rw [HX.out, HT.out, Bs_eq]; omega) rfl (by omega)
      case measure => simp [intOf]; omega
    · obtain rfl : k = n := by omega
      go_wp2_with (at_builtin; refine wpList_push rfl _ _ rfl w.heap.size _ l rfl (hown.alloc _) wr.heap.size rfl _ (cell_new _ _ _) (r) (rfl) hll (by simp; omega) (fun v' w' hown' hkeep => ?_))
      have HO := Lib.hid hown'
      have HKp := Lib.hid (hkeep w (HBL.out.alloc hsz _))
      clear hown' hkeep
      go_wp2_with fail
      go_ret
      refine ⟨_, l ++ [r], rfl, HO.out, HD.out.snoc (by rw [Bs_eq]; exact hr1), ⟨by simp [HL.out], ?_⟩, HKp.out⟩
      rw [val_snoc, HL.out, HV.out, val_take_all (by rw [HLA.out]; omega)]
theorem sca_any (A : Option Addr) (n ca q : Nat) (la : List Nat) (w : World) (hn : n ≤ 300000) (hq : q < 1073741824) (hla : la.length = n) (hA : Lc w A la) (ha : Dl la) :
    Calls Tryz.prog 223 #[.slice A n ca, .int .i64 (q : Int)] w (RetL (fun l => l.length = n + 1 ∧ val l = val la * q) w) :=
  (sca_own A n ca q la w hn hq hla hA ha).mono fun _ _ ⟨v, l, e, ho, hd, hp, hb⟩ => ⟨v, l, e, ho.ls hd, hp, hb⟩
def RowI (w : World) (g : Nat) (l : List Nat) : Prop := w.rowIs g 3 l.length (fun j => .int .i64 ((l.getD j 0 : Nat) : Int))
theorem RowI.cell {w : World} {g : Nat} {l : List Nat} (h : RowI w g l) {i : Nat} (hi : i < l.length) : w.cell? ⟨g, i, none⟩ = some (.int .i64 ((l.getD i 0 : Nat) : Int)) := World.rowIs.cell h hi
theorem RowI.frozen {w : World} {g : Nat} {l : List Nat} (h : RowI w g l) (i : Nat) : w.frozen? ⟨g, i, none⟩ = false := World.rowIs.frozen h i
theorem RowI.lt {w : World} {g : Nat} {l : List Nat} (h : RowI w g l) : g < w.heap.size := World.rowIs.lt h
theorem RowI.block {w w' : World} {g : Nat} {l : List Nat} (h : RowI w g l) (e : w'.heap[g]? = w.heap[g]?) : RowI w' g l := World.rowIs.of_block h e
theorem RowI.keep {w w' : World} {g : Nat} {l : List Nat} (h : RowI w g l) (hb : Below w.heap.size w w') : RowI w' g l := h.block (hb.block g h.lt)
theorem RowI.drewN {w : World} {g : Nat} {l : List Nat} (h : RowI w g l) (k : Nat) : RowI (w.drewN k) g l := h
theorem getD_set (l : List Nat) (i x j : Nat) (hi : i < l.length) : (l.set i x).getD j 0 = if j = i then x else l.getD j 0 := by
  simp only [List.getD_eq_getElem?_getD]
  by_cases e : j = i
  · subst e
    rw [List.getElem?_set_self hi, if_pos rfl]
    rfl
  · rw [List.getElem?_set_ne (Ne.symm e), if_neg e]
theorem RowI.set {w : World} {g : Nat} {l : List Nat} (h : RowI w g l) {i : Nat} (hi : i < l.length) (x : Nat) : RowI (w.setCell ⟨g, i, none⟩ (.int .i64 (x : Int))) g (l.set i x) := by
  unfold RowI
  rw [List.length_set]
  refine World.rowIs.congr (World.rowIs.set h i _) fun j _ => ?_
  rw [getD_set l i x j hi]
  split <;> rfl
theorem RowI.new (w : World) (n : Nat) : RowI (w.alloc (.cells (madeCells #[.int .i64 0] n) 3)) w.heap.size (List.replicate n 0) := by
  unfold RowI
  rw [List.length_replicate]
  refine World.rowIs.congr (World.rowIs_made w (.int .i64 0) n 3) fun j hj => ?_
  simp [List.getD_eq_getElem?_getD, hj]
theorem RowI.lc {w : World} {g : Nat} {l : List Nat} (h : RowI w g l) : Lc w (some ⟨g, 0, none⟩) l := fun _ => by
  obtain ⟨cs, hc, _⟩ := id h
  exact ⟨g, 0, rfl, ⟨cs, _, hc⟩, fun i hi => by rw [Nat.zero_add]; exact h.cell hi⟩
theorem Lc.drop {w : World} {b off : Nat} {l : List Nat} (h : Lc w (some ⟨b, off, none⟩) l) (k : Nat) : Lc w (some ⟨b, off + k, none⟩) (l.drop k) := by
  intro hn
  rw [List.length_drop] at hn
  obtain ⟨b', off', hA, hx, hc⟩ := h (by omega)
  injection hA with hA
  injection hA with e1 e2
  subst e1 e2
  refine ⟨b, off + k, rfl, hx, fun i hi => ?_⟩
  rw [List.length_drop] at hi
  rw [getD_drop, Nat.add_assoc]
  exact hc (k + i) (by omega)
theorem make_rowI (n : Nat) (h : n ≤ 4000000) (w : World) :
    (Instr.makeSlice 25 (.int .i64 (n : Int)) (.int .i64 (n : Int))).run Tryz.prog w = .ok (.slice (some ⟨w.heap.size, 0, none⟩) n n) (w.alloc (.cells (madeCells #[.int .i64 0] n) 3)) :=
  run_make_row' (P := Tryz.prog) 25 3 (.int .i64 0) 8 Tryz.underlying25 info3 rfl .i64 .i64 n (by omega) (by omega) w
def ShoR (w : World) (la : List Nat) (b : Nat) (rest i : Value) (wr : World) : Prop :=
  ∃ (k r : Nat) (q : List Nat), k ≤ la.length ∧ i = .int .i64 ((k : Int) - 1) ∧ rest = .int .i64 (r : Int) ∧ r < b ∧ q.length = la.length ∧ RowI wr w.heap.size q ∧ Dl q ∧
    val (la.drop k) = val (q.drop k) * b + r ∧ Below w.heap.size w wr
theorem Dl.zeros (n : Nat) : Dl (List.replicate n 0) := fun d hd => by rw [List.eq_of_mem_replicate hd]; exact Bs_pos
theorem Dl.set {l : List Nat} (h : Dl l) (i : Nat) {x : Nat} (hx : x < Bs) : Dl (l.set i x) := fun d hd => by
  rcases List.mem_or_eq_of_mem_set hd with hd | hd
  · exact h d hd
  · rw [hd]; exact hx
theorem ShoR.start (w : World) (la : List Nat) (n b : Nat) (hn : la.length = n) (hb : 0 < b) {a : Int} (ha : a = (n : Int) - 1) : ShoR w la b (.int .i64 0) (.int .i64 a) (w.alloc (.cells (madeCells #[.int .i64 0] n) 3)) :=
  ⟨n, 0, List.replicate n 0, by omega, by rw [ha], rfl, hb, by simp [hn], RowI.new w n, Dl.zeros n, by rw [List.drop_of_length_le (by omega), List.drop_of_length_le (by simp)]; simp [val], (Below.refl _ _).alloc (Nat.le_refl _) _⟩
theorem sho_digit (r x b : Nat) (hr : r < b) (hx : x < Bs) : (r * Bs + x) / b < Bs := by
  rw [Nat.div_lt_iff_lt_mul (by omega)]
  have h := Nat.mul_le_mul_right Bs (show r + 1 ≤ b from hr)
  rw [Nat.add_mul, Nat.one_mul, Nat.mul_comm b Bs] at h
  omega
theorem ShoR.next {w wr w2 : World} {la q : List Nat} {b j r : Nat} (ha : Dl la) (hj : j < la.length) (hr : r < b) (hq : q.length = la.length) (hrow : RowI wr w.heap.size q) (hd : Dl q) (hv : val (la.drop (j + 1)) = val (q.drop (j + 1)) * b + r) (hbel : Below w.heap.size w wr)
    {X C I : Int} {c i : Value} (hX : X = (((r * Bs + la.getD j 0) / b : Nat) : Int)) (hc : c = .int .i64 C) (hC : C = (((r * Bs + la.getD j 0) % b : Nat) : Int)) (hi : i = .int .i64 I) (hI : I = (j : Int) - 1) {N : Nat} (hw : w2 = (wr.setCell ⟨w.heap.size, j, none⟩ (.int .i64 X)).drewN N) : ShoR w la b c i w2 := by
  subst hX hc hC hi hI hw
  have hjq : j < q.length := by omega
  refine ⟨j, (r * Bs + la.getD j 0) % b, q.set j ((r * Bs + la.getD j 0) / b), by omega, rfl, rfl, Nat.mod_lt _ (by omega), by simp [hq], (hrow.set hjq _).drewN _, hd.set _ (sho_digit _ _ _ hr (ha.getD j)), ?_, ?_⟩
  · rw [val_drop (l := la) hj, val_drop (l := q.set j ((r * Bs + la.getD j 0) / b)) (k := j) (by rw [List.length_set]; exact hjq), getD_set _ _ _ _ hjq, if_pos rfl, hv, List.drop_set_of_lt (by omega)]
    have hdm := Nat.div_add_mod (r * Bs + la.getD j 0) b
    rw [Nat.add_mul, Nat.mul_add, Nat.mul_assoc, Nat.mul_comm Bs r]
    rw [Nat.mul_comm b] at hdm
    omega
  · have h := hbel.setCell (p := ⟨w.heap.size, j, none⟩) (Nat.le_refl _) (.int .i64 (((r * Bs + la.getD j 0) / b : Nat) : Int))
    exact ⟨h.os, h.tape, h.output, h.size, h.block⟩
def RetSh (la : List Nat) (b : Nat) (w : World) (e : Ending) (w' : World) : Prop :=
  ∃ v q r, e = .returned (.tuple #[v, .int .i64 ((r : Nat) : Int)]) ∧ Ls w' v q ∧ q.length = la.length ∧ val la = val q * b + r ∧ r < b ∧ Below w.heap.size w w'
theorem sho_any (A : Option Addr) (n ca b : Nat) (la : List Nat) (w : World) (hn : n ≤ 1000000) (hb0 : 0 < b) (hb : b ≤ 1073741824) (hla : la.length = n) (hA : Lc w A la) (ha : Dl la) :
    Calls Tryz.prog 222 #[.slice A n ca, .int .i64 (b : Int)] w (RetSh la b w) := by
  have hmk := make_rowI n (by omega)
  have HLA := Lib.hid hla
  have HDA := Lib.hid ha
  clear hla ha
  go_enter Tryz.func222, Tryz.ntmps222
  go_wp2_with fail
  clear hmk
  go_loopw [5, 6] (fun r i wr => ShoR w la b r i wr) (fun _ i _ => (intOf i + 1).toNat)
  case atStart => exact ShoR.start w la n b HLA.out hb0 rfl
  case round =>
    obtain ⟨k, r, q, hk, rfl, rfl, hr, hq, hrow, hd, hv, hbel⟩ := hrel
    have hkn : k ≤ n := by rw [HLA.out] at hk; exact hk
    have HV := Lib.hid hv
    have HD := Lib.hid hd
    have HQ := Lib.hid hq
    have HR := Lib.hid hrow
    have HBL := Lib.hid hbel
    clear hv hd hq hrow hk hbel
    rcases Nat.eq_zero_or_pos k with h0 | h0
    · subst h0
      rw [show (((0 : Nat) : Int) - 1) = -1 from rfl]
      go_wp2_with fail
      go_ret2
      exact ⟨.slice (some ⟨w.heap.size, 0, none⟩) n n, q, r, rfl, ⟨some ⟨w.heap.size, 0, none⟩, n, by rw [HQ.out, HLA.out], by rw [HQ.out, HLA.out]; omega, HD.out, HR.out.lc⟩, HQ.out, HV.out, hr, HBL.out⟩
    · obtain ⟨j, rfl⟩ : ∃ j, k = j + 1 := ⟨k - 1, by omega⟩
      have ej : (((j + 1 : Nat) : Int) - 1) = (j : Int) := by omega
      rw [ej]
      clear ej h0
      have hj : j < n := by omega
      obtain ⟨x, hx⟩ : ∃ x, la.getD j 0 = x := ⟨_, rfl⟩
      have hx1 : x < 1073741824 := by have := HDA.out.getD j; rw [Bs_eq] at this; omega
      have HX := Lib.hid hx
      clear hx
      obtain ⟨bb, off, rfl, -, hcells⟩ := (hA.keep HBL.out) (by rw [HLA.out]; omega)
      have hc1 := hcells j (by rw [HLA.out]; exact hj)
      rw [HX.out] at hc1
      have hcell := HR.out.cell (i := j) (by rw [HQ.out, HLA.out]; exact hj)
      have hfr := HR.out.frozen j
      clear hcells
      obtain ⟨T, hT⟩ : ∃ T, r * 1073741824 + x = T := ⟨_, rfl⟩
      have hTI : (r : Int) * 1073741824 + (x : Int) = (T : Int) := by omega
      have hTb : T ≤ 1152921504606846976 := by omega
      have HT := Lib.hid hT
      clear hT
      go_wp2_with fail
      have hq1 : ((T : Int)).tdiv (b : Int) = ((T / b : Nat) : Int) := rfl
      have hq2 : ((T : Int)).tmod (b : Int) = ((T % b : Nat) : Int) := rfl
      have hq3 : T / b ≤ T := Nat.div_le_self _ _
      have hq4 : wrap64 ((T : Int) / (b : Int)) = ((T / b : Nat) : Int) := by
        have e : (T : Int) / (b : Int) = ((T / b : Nat) : Int) := rfl
        rw [e]
        generalize T / b = u at hq3
        exact IntWalk.wrap64_in (u : Int) (by omega)
      have HQ4 := Lib.hid hq4
      clear hq4 hq1 hq2 hq3
      go_region
      all_goals go_wp2_with fail
      all_goals exact ⟨ShoR.next (N := 1) HDA.out (by rw [HLA.out]; exact hj) hr HQ.out HR.out HD.out HV.out HBL.out (by rw [HX.out, Bs_eq, HT.out]; exact HQ4.out) rfl (by rw [HX.out, Bs_eq, HT.out]; rfl) rfl rfl rfl, by simp [intOf]⟩
def Edge : Nat := 2305843009213693952
theorem Edge_eq : Edge = 2305843009213693952 := rfl
def RI (w : World) (s : Int) (neg : Bool) (A : Option Addr) (n c : Nat) (z : Int) : Prop :=
  ∃ l, l.length = n ∧ (n ≤ c ∧ c ≤ 9223372036854775807) ∧ Dl l ∧ Lc w A l ∧ ((n = 0 ∧ s = z ∧ neg = false ∧ z.natAbs < Edge) ∨ (0 < n ∧ s = 0 ∧ neg = decide (z < 0) ∧ Nz l ∧ val l = z.natAbs ∧ Edge ≤ z.natAbs))
theorem RI.keep {w w' : World} {s : Int} {neg : Bool} {A : Option Addr} {n c : Nat} {z : Int} (h : RI w s neg A n c z) (hb : Below w.heap.size w w') : RI w' s neg A n c z := by
  obtain ⟨l, h1, h2, h3, h4, h5⟩ := h
  exact ⟨l, h1, h2, h3, h4.keep hb, h5⟩
theorem RI.set {w : World} {s : Int} {neg : Bool} {A : Option Addr} {n c : Nat} {z : Int} (h : RI w s neg A n c z) {k T : Nat} (hb : Bx w k T) (hT : T ≠ 3) (o : Nat) (u : Value) : RI (w.setCell ⟨k, o, none⟩ u) s neg A n c z := by
  obtain ⟨l, h1, h2, h3, h4, h5⟩ := h
  exact ⟨l, h1, h2, h3, h4.set hb hT o u, h5⟩
theorem RI.small (w : World) {z : Int} (h : z.natAbs < Edge) (A : Option Addr) (c : Nat) (hc : c ≤ 9223372036854775807) : RI w z false A 0 c z :=
  ⟨[], rfl, ⟨Nat.zero_le _, hc⟩, Dl.nil, Lc.nil w A, Or.inl ⟨rfl, rfl, rfl, h⟩⟩
theorem RI.len {w : World} {s : Int} {neg : Bool} {A : Option Addr} {n c : Nat} {z : Int} (h : RI w s neg A n c z) {k : Nat} (hz : z.natAbs < Bs ^ k) : n ≤ k := by
  obtain ⟨l, h1, h2, h3, h4, ⟨e, _⟩ | ⟨_, _, _, h5, h6, _⟩⟩ := h
  · omega
  · rw [← h1]
    exact len_le h5 (by rw [h6]; exact hz)
def RetI (z : Int) (w : World) (e : Ending) (w' : World) : Prop := ∃ s neg A n c, e = .returned (.agg #[.int .i64 s, .bool neg, .slice A n c]) ∧ RI w' s neg A n c z ∧ Below w.heap.size w w'
def W3 (g : Nat) (w : World) : Prop := (∃ p q r, w.cell? ⟨g, 0, none⟩ = some p ∧ w.cell? ⟨g, 1, none⟩ = some q ∧ w.cell? ⟨g, 2, none⟩ = some r) ∧ w.frozen? ⟨g, 0, none⟩ = false ∧ w.frozen? ⟨g, 1, none⟩ = false ∧ w.frozen? ⟨g, 2, none⟩ = false ∧ Bx w g 84
theorem W3.keep {g : Nat} {w w' : World} (h : W3 g w) (hB : Below w.heap.size w w') : W3 g w' := by
  obtain ⟨⟨p, q, r, h1, h2, h3⟩, f1, f2, f3, hx⟩ := h
  have hz := hx.lt
  exact ⟨⟨p, q, r, (hB.cell (p := ⟨g, 0, none⟩) hz).trans h1, (hB.cell (p := ⟨g, 1, none⟩) hz).trans h2, (hB.cell (p := ⟨g, 2, none⟩) hz).trans h3⟩,
    (hB.frozen (p := ⟨g, 0, none⟩) hz).trans f1, (hB.frozen (p := ⟨g, 1, none⟩) hz).trans f2, (hB.frozen (p := ⟨g, 2, none⟩) hz).trans f3, hx.keep hB⟩
theorem W3.new (w : World) (p q r : Value) {g : Nat} (hg : g = w.heap.size) : W3 g (w.alloc (.cells #[p, q, r] 84)) := by
  subst hg
  refine ⟨⟨p, q, r, ?_, ?_, ?_⟩, ?_, ?_, ?_, Bx.new w _ 84⟩ <;> simp [go_sem]
def B3 (g : Nat) (p q r : Value) (w : World) : Prop := w.cell? ⟨g, 0, none⟩ = some p ∧ w.cell? ⟨g, 1, none⟩ = some q ∧ w.cell? ⟨g, 2, none⟩ = some r ∧ g < w.heap.size
theorem B3.new (w : World) (p q r : Value) : B3 w.heap.size p q r (w.alloc (.cells #[p, q, r] 84)) := by simp [B3, go_sem]
theorem B3.keep {g : Nat} {p q r : Value} {w w' : World} (h : B3 g p q r w) (hB : Below w.heap.size w w') : B3 g p q r w' :=
  ⟨(hB.cell (p := ⟨g, 0, none⟩) h.2.2.2).trans h.1, (hB.cell (p := ⟨g, 1, none⟩) h.2.2.2).trans h.2.1, (hB.cell (p := ⟨g, 2, none⟩) h.2.2.2).trans h.2.2.1, Nat.lt_of_lt_of_le h.2.2.2 hB.size⟩
theorem retI_box {s z : Int} {neg : Bool} {A : Option Addr} {n c g : Nat} {w w1 : World} (h : RI w1 s neg A n c z) (hx : Bx w1 g 84) (hB : Below w.heap.size w w1) (hg : w.heap.size ≤ g) :
    RetI z w (.returned (.agg #[.int .i64 s, .bool neg, .slice A n c])) (((w1.setCell ⟨g, 0, none⟩ (.int .i64 s)).setCell ⟨g, 1, none⟩ (.bool neg)).setCell ⟨g, 2, none⟩ (.slice A n c)) :=
  ⟨s, neg, A, n, c, rfl, ((h.set hx (by decide) _ _).set (hx.set _ _ _) (by decide) _ _).set ((hx.set _ _ _).set _ _ _) (by decide) _ _, ((hB.setCell hg _).setCell hg _).setCell hg _⟩
def sgnI (z : Int) : Int := if z < 0 then -1 else if z = 0 then 0 else 1
theorem rsign_any (s : Int) (neg : Bool) (A : Option Addr) (n c : Nat) (z : Int) (w : World) (h : RI w s neg A n c z) (hn : n ≤ 1000000) :
    Calls Tryz.prog 108 #[.agg #[.int .i64 s, .bool neg, .slice A n c]] w fun e w' => e = .returned (.int .i64 (sgnI z)) ∧ Below w.heap.size w w' := by
  obtain ⟨l, -, -, -, -, ⟨rfl, rfl, rfl, -⟩ | ⟨h1, rfl, h3, -, -, h6⟩⟩ := h
  · rcases Int.lt_trichotomy s 0 with h | h | h
    · have e : sgnI s = -1 := if_pos h
      rw [e]; clear e
      have hd := decide_eq_true h
      go_enter Tryz.func108, Tryz.ntmps108
      go_wp2_with fail
      go_ret
      exact ⟨rfl, below_alloc w _⟩
    · subst h
      go_enter Tryz.func108, Tryz.ntmps108
      go_wp2_with fail
      go_ret
      exact ⟨rfl, below_alloc w _⟩
    · have e : sgnI s = 1 := by unfold sgnI; rw [if_neg (by omega), if_neg (by omega)]
      rw [e]; clear e
      have hd : ¬ s < 0 := by omega
      go_enter Tryz.func108, Tryz.ntmps108
      go_wp2_with fail
      go_ret
      exact ⟨rfl, below_alloc w _⟩
  · rw [Edge_eq] at h6
    cases hz : decide (z < 0)
    · have e : sgnI z = 1 := by have := of_decide_eq_false hz; unfold sgnI; rw [if_neg (by omega), if_neg (by omega)]
      rw [hz] at h3
      subst h3
      rw [e]
      clear e hz h6
      go_enter Tryz.func108, Tryz.ntmps108
      go_wp2_with fail
      go_ret
      exact ⟨rfl, below_alloc w _⟩
    · have e : sgnI z = -1 := if_pos (of_decide_eq_true hz)
      rw [hz] at h3
      subst h3
      rw [e]
      clear e hz h6
      go_enter Tryz.func108, Tryz.ntmps108
      go_wp2_with fail
      go_ret
      exact ⟨rfl, below_alloc w _⟩
theorem retI {s z : Int} {neg : Bool} {A : Option Addr} {n c : Nat} {w w1 : World} (h : RI w1 s neg A n c z) (hB : Below w.heap.size w w1) : RetI z w (.returned (.agg #[.int .i64 s, .bool neg, .slice A n c])) w1 := ⟨s, neg, A, n, c, rfl, h, hB⟩
theorem below_two (w : World) (o o' : Obj) : Below w.heap.size w ((w.alloc o).alloc o') := ((Below.refl _ _).alloc (Nat.le_refl _) _).alloc (by simp) _
theorem rminus_any (s : Int) (neg : Bool) (A : Option Addr) (n c : Nat) (z : Int) (w : World) (h : RI w s neg A n c z) (hn : n ≤ 1000000) :
    Calls Tryz.prog 136 #[.agg #[.int .i64 s, .bool neg, .slice A n c]] w (RetI (-z) w) := by
  obtain ⟨l, h1, h2, h3, h4, ⟨rfl, rfl, rfl, h5⟩ | ⟨h5, rfl, h6, h7, h8, h9⟩⟩ := h
  · have HR : Hid (∀ wx, Below w.heap.size w wx → RI wx (-s) false A 0 c (-s)) := fun wx _ => RI.small wx (by rw [Int.natAbs_neg]; exact h5) A c h2.2
    have hw : IntKind.i64.wrap (-s) = -s := IntWalk.i64_in _ (by rw [Edge_eq] at h5; omega)
    obtain ⟨t, ht⟩ : ∃ t, -s = t := ⟨_, rfl⟩
    rw [ht] at HR hw ⊢
    have hw : IntKind.i64.wrap (-s) = t := by rw [ht]; exact hw
    clear h1 h2 h3 h4 h5
    go_enter Tryz.func136, Tryz.ntmps136
    go_wp2_with fail
    exact bodyPost_ret (v := .agg #[.int .i64 t, .bool false, .slice A 0 c]) (by simp [results, Tryz.results136, go_sem]) rfl (retI (HR.out _ (below_two w _ _)) (below_two w _ _))
  · have HR : Hid (∀ wx, Below w.heap.size w wx → RI wx 0 (!neg) A n c (-z)) := fun wx hb => ⟨l, h1, h2, h3, h4.keep hb, Or.inr ⟨h5, rfl, by
      rw [h6]
      rw [Edge_eq] at h9
      by_cases hz : z < 0
      · rw [decide_eq_true hz, decide_eq_false (by omega)]; rfl
      · rw [decide_eq_false hz, decide_eq_true (by omega)]; rfl, h7, by rw [Int.natAbs_neg]; exact h8, by rw [Int.natAbs_neg]; exact h9⟩⟩
    clear h1 h2 h3 h4 h6 h7 h8 h9
    go_enter Tryz.func136, Tryz.ntmps136
    go_wp2_with fail
    exact bodyPost_ret (v := .agg #[.int .i64 0, .bool (!neg), .slice A n c]) (by simp [results, Tryz.results136, go_sem]) rfl (retI (HR.out _ (below_two w _ _)) (below_two w _ _))
end Go.Proofs.YtmfnpipmbpnfbaaGreatDoor
