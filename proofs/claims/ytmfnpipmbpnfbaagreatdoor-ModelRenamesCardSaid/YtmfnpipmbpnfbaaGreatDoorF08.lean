/- Integers of the reference in memory: out of digits. -/
import Derived.Test.YtmfnpipmbpnfbaaGreatDoorF07
import Derived.Test.YtmfnpipmbpnfbaaGreatDoorF04

set_option maxRecDepth 100000
set_option maxHeartbeats 40000000
namespace Go.Proofs.YtmfnpipmbpnfbaaGreatDoor
open Go.RowKit
theorem Lc.at {w : World} {b off : Nat} {l : List Nat} (h : Lc w (some ⟨b, off, none⟩) l) {i : Nat} (hi : i < l.length) : w.cell? ⟨b, off + i, none⟩ = some (.int .i64 ((l.getD i 0 : Nat) : Int)) := by
  obtain ⟨b', off', hA, -, hc⟩ := h (by omega)
  injection hA with hA
  injection hA with e1 e2
  subst e1 e2
  exact hc i hi
theorem val_drop_le (l : List Nat) (k : Nat) : val (l.drop k) ≤ val l := by
  by_cases h : k ≤ l.length
  · rw [val_split l h]
    have h1 : 1 * val (l.drop k) ≤ Bs ^ k * val (l.drop k) := Nat.mul_le_mul_right _ (Bs_pow_pos k)
    omega
  · rw [List.drop_of_length_le (by omega)]
    exact Nat.zero_le _
theorem val_three {l : List Nat} (h : l.length = 3) : val l = val (l.take 2) + Bs ^ 2 * l.getD 2 0 := by
  rw [← val_take_succ, val_take_all (by omega)]
theorem small_three {l : List Nat} (hd : Dl l) (h : l.length = 3) : l.getD 2 0 < 2 ↔ val l < Edge := by
  have h1 := val_lt (hd.take 2)
  rw [List.length_take, h] at h1
  have e : Bs ^ 2 = 1152921504606846976 := by rw [Bs_eq]
  rw [val_three h, Edge_eq]
  simp only [show min 2 3 = 2 from rfl, e] at h1 ⊢
  omega
theorem small_two {l : List Nat} (hd : Dl l) (h : l.length ≤ 2) : val l < Edge := by
  have h1 := val_lt hd
  have h2 : Bs ^ l.length ≤ Bs ^ 2 := Nat.pow_le_pow_right Bs_pos h
  have e : Bs ^ 2 = 1152921504606846976 := by rw [Bs_eq]
  rw [e] at h2
  rw [Edge_eq]
  omega
theorem big_four {l : List Nat} (hz : Nz l) (h : 4 ≤ l.length) : Edge ≤ val l := by
  have h1 := Nz_ge hz (by intro e; rw [e] at h; simp at h)
  have h2 : Bs ^ 3 ≤ Bs ^ (l.length - 1) := Nat.pow_le_pow_right Bs_pos (by omega)
  have e : Bs ^ 3 = 1237940039285380274899124224 := by rw [Bs_eq]
  rw [e] at h2
  rw [Edge_eq]
  omega
def sgz (neg : Bool) (x : Nat) : Int := if neg then -(x : Int) else (x : Int)
theorem sgz_abs (neg : Bool) (x : Nat) : (sgz neg x).natAbs = x := by cases neg <;> simp [sgz]
theorem RI.big {w : World} {A : Option Addr} {c : Nat} {l : List Nat} {neg : Bool} (hc : l.length ≤ c ∧ c ≤ 9223372036854775807) (hd : Dl l) (hA : Lc w A l) (hz : Nz l) (h : Edge ≤ val l) : RI w 0 neg A l.length c (sgz neg (val l)) := by
  refine ⟨l, rfl, hc, hd, hA, Or.inr ⟨?_, rfl, ?_, hz, (sgz_abs _ _).symm, by rw [sgz_abs]; exact h⟩⟩
  · rcases List.eq_nil_or_concat l with h1 | ⟨_, _, h1⟩
    · rw [h1, Edge_eq] at h; simp [val] at h
    · rw [h1]; simp
  · rw [Edge_eq] at h
    cases neg
    · exact (decide_eq_false (by simp [sgz])).symm
    · exact (decide_eq_true (by simp [sgz]; omega)).symm
theorem made_any (neg : Bool) (A : Option Addr) (n c : Nat) (l0 : List Nat) (w : World) (hl0 : l0.length = n) (hn : n ≤ c) (hc : c ≤ 9223372036854775807) (hd0 : Dl l0) (hA : Lc w A l0) :
    Calls Tryz.prog 135 #[.bool neg, .slice A n c] w (RetI (sgz neg (val l0)) w) := by
  have HL0 := Lib.hid hl0
  have HD0 := Lib.hid hd0
  clear hl0 hd0
  go_enter Tryz.func135, Tryz.ntmps135
  go_upto_block 0 with fail
  generalize hX : w.alloc _ = X
  have HX : Hid (Below w.heap.size w X ∧ W3 w.heap.size X ∧ Lc X A l0) := by
    subst hX
    exact ⟨below_alloc w _, W3.new w _ _ _ rfl, hA.keep (below_alloc w _)⟩
  clear hX hA
  go_cut [1] (fun s wx => X = wx ∧ ∃ k : Nat, k ≤ n ∧ s = .slice A k c ∧ Hid (Nz (l0.take k) ∧ val (l0.take k) = val l0))
  case first =>
    go_wp2_with fail
    go_loop [1] (fun s => ∃ k : Nat, k ≤ n ∧ s = .slice A k c ∧ Hid (val (l0.take k) = val l0)) (fun s => slen s)
    case atStart => exact ⟨n, Nat.le_refl _, rfl, by rw [← HL0.out]; exact val_take_all (Nat.le_refl _)⟩
    case round =>
      obtain ⟨k, hk, rfl, hv⟩ := hrel
      rcases Nat.eq_zero_or_pos k with h0 | h0
      · subst h0
        go_wp2_with fail
        go_meet
        exact ⟨rfl, 0, Nat.zero_le _, rfl, Or.inl rfl, hv.out⟩
      · obtain ⟨b, off, hA', hb, hcell⟩ := HX.out.2.2 (by rw [HL0.out]; omega)
        subst hA'
        have hcell1 := hcell (k - 1) (by rw [HL0.out]; omega)
        clear hcell
        obtain ⟨x, hx⟩ : ∃ x, l0.getD (k - 1) 0 = x := ⟨_, rfl⟩
        rw [hx] at hcell1
        have HX1 := Lib.hid hx
        clear hx
        by_cases hz : x = 0
        · have hv2 : Hid (val (l0.take (k - 1)) = val l0) := by
            have := hv.out
            obtain ⟨m, rfl⟩ : ∃ m, k = m + 1 := ⟨k - 1, by omega⟩
            rw [val_take_succ] at this
            have h2 := HX1.out
            simp only [Nat.add_sub_cancel] at h2 ⊢
            rw [h2, hz] at this
            show val (l0.take m) = val l0
            simpa using this
          subst hz
          go_wp2_with fail
          exact ⟨⟨k - 1, by omega, rfl, hv2⟩, by simp [slen]; omega⟩
        · have hz2 : ((x : Int) == 0) = false := by simpa using hz
          have HZ := Lib.hid hz
          clear hz
          go_wp2_with fail
          go_meet
          refine ⟨rfl, k, hk, rfl, Or.inr ?_, hv.out⟩
          rw [List.length_take, Nat.min_eq_left (by rw [HL0.out]; exact hk), getD_take (by omega), HX1.out]
          exact HZ.out
  case rest =>
    obtain ⟨rfl, k, hk, rfl, hNZ⟩ := hcut
    obtain ⟨L, hL⟩ : ∃ L, l0.take k = L := ⟨_, rfl⟩
    have HLL : Hid (L.length = k) := by
      show L.length = k
      rw [← hL, List.length_take, HL0.out]
      omega
    have HLD : Hid (Dl L) := by rw [← hL]; exact HD0.out.take k
    have HLC : Hid (Lc X A L) := by rw [← hL]; exact HX.out.2.2.take k
    have HLZ : Hid (Nz L) := by rw [← hL]; exact hNZ.out.1
    have HLV : Hid (val L = val l0) := by rw [← hL]; exact hNZ.out.2
    clear hNZ hL
    rcases Nat.lt_or_ge 3 k with h4 | h4
    · have HE : Hid (Edge ≤ val L) := big_four HLZ.out (by rw [HLL.out]; omega)
      obtain ⟨⟨p1, p2, p3, p4, p5, p6⟩, p7, p8, p9, p10⟩ := HX.out.2.1
      have HP10 := Lib.hid p10
      clear p10
      have HBIG := Lib.hid (RI.big (neg := neg) (c := c) ⟨by rw [HLL.out]; omega, hc⟩ HLD.out HLC.out HLZ.out HE.out)
      go_wp2_with fail
      exact bodyPost_ret (v := .agg #[.int .i64 0, .bool neg, .slice A k c]) (by simp [results, Tryz.results135, go_sem, *]) rfl (by
        rw [← HLV.out, ← HLL.out]
        exact retI_box HBIG.out HP10.out HX.out.1 (Nat.le_refl _))
    · by_cases h3 : k = 3
      · have g1 : ((k : Int) == 3) = true := by rw [h3]; rfl
        have g2 : 2 < (k : Int) := by omega
        have HT := Lib.hid (small_three HLD.out (by rw [HLL.out, h3]))
        have HK3 := Lib.hid h3
        clear h3
        obtain ⟨b, off, hA', -, hcells⟩ := HLC.out (by rw [HLL.out]; omega)
        subst hA'
        have hc2 := hcells 2 (by rw [HLL.out]; omega)
        clear hcells
        obtain ⟨x, hx⟩ : ∃ x, L.getD 2 0 = x := ⟨_, rfl⟩
        rw [hx] at hc2
        have HX2 := Lib.hid hx
        clear hx
        by_cases h2 : x < 2
        · have HE : Hid (val L < 2305843009213693952) := HT.out.1 (by rw [HX2.out]; exact h2)
          have hd : decide (2 ≤ (x : Int)) = false := decide_eq_false (by omega)
          clear h2
          go_wp2_with fail
          go_loop [5, 6] (fun s i => ∃ j : Nat, j ≤ k ∧ s = .int .i64 ((val (L.drop j) : Nat) : Int) ∧ i = .int .i64 ((j : Int) - 1)) (fun _ i => (intOf i + 1).toNat)
          case atStart => exact ⟨k, Nat.le_refl _, by rw [List.drop_of_length_le (by rw [HLL.out]; omega)]; rfl, rfl⟩
          case round =>
            obtain ⟨j, hj, rfl, rfl⟩ := hrel
            rcases Nat.eq_zero_or_pos j with h0 | h0
            · subst h0
              rw [show (((0 : Nat) : Int) - 1) = -1 from rfl, List.drop_zero]
              have hvl : val L < 2305843009213693952 := HE.out
              have HV2 := Lib.hid (HLV.out)
              generalize hvx : val L = x at hvl HV2 ⊢
              clear hvx
              have hwr : IntKind.i64.wrap (-(x : Int)) = -(x : Int) := IntWalk.i64_in _ (by omega)
              obtain ⟨⟨p1, p2, p3, p4, p5, p6⟩, p7, p8, p9, p10⟩ := HX.out.2.1
              have HP10 := Lib.hid p10
              clear p10
              cases neg
              · go_wp2_with fail
                exact bodyPost_ret (v := .agg #[.int .i64 (x : Int), .bool false, .slice none 0 0]) (by simp [results, Tryz.results135, go_sem, *]) rfl (retI_box (by rw [← HV2.out]; exact RI.small _ (by rw [Edge_eq]; omega) _ _ (Nat.zero_le _)) HP10.out HX.out.1 (Nat.le_refl _))
              · go_wp2_with fail
                exact bodyPost_ret (v := .agg #[.int .i64 (-(x : Int)), .bool false, .slice none 0 0]) (by simp [results, Tryz.results135, go_sem, *]) rfl (retI_box (by rw [← HV2.out]; exact RI.small _ (by rw [Edge_eq]; omega) _ _ (Nat.zero_le _)) HP10.out HX.out.1 (Nat.le_refl _))
            · obtain ⟨m, rfl⟩ : ∃ m, j = m + 1 := ⟨j - 1, by omega⟩
              have ej : (((m + 1 : Nat) : Int) - 1) = (m : Int) := by omega
              rw [ej]
              clear ej h0
              have hc1 := HLC.out.at (i := m) (by rw [HLL.out]; omega)
              have hstep : Hid (val (L.drop m) = L.getD m 0 + Bs * val (L.drop (m + 1))) := val_drop (by rw [HLL.out]; omega)
              have hle : val (L.drop m) < 2305843009213693952 := Nat.lt_of_le_of_lt (val_drop_le L m) HE.out
              rw [hstep.out, Bs_eq] at hle
              obtain ⟨x, hx⟩ : ∃ x, L.getD m 0 = x := ⟨_, rfl⟩
              obtain ⟨y, hy⟩ : ∃ y, val (L.drop (m + 1)) = y := ⟨_, rfl⟩
              rw [hx] at hc1
              rw [hx, hy] at hle
              rw [hy]
              have HX1 := Lib.hid hx
              have HY1 := Lib.hid hy
              clear hx hy
              go_wp2_with fail
              exact ⟨⟨m, by omega, int_eq (by rw [hstep.out, HX1.out, HY1.out, Bs_eq]; omega), rfl⟩, by simp [intOf]⟩
        · have HE : Hid (Edge ≤ val L) := by
            have := HT.out
            rw [HX2.out] at this
            show Edge ≤ val L
            omega
          have hd : decide (2 ≤ (x : Int)) = true := decide_eq_true (by omega)
          clear h2
          obtain ⟨⟨p1, p2, p3, p4, p5, p6⟩, p7, p8, p9, p10⟩ := HX.out.2.1
          have HP10 := Lib.hid p10
          clear p10
          have HBIG := Lib.hid (RI.big (neg := neg) (c := c) ⟨by rw [HLL.out]; omega, hc⟩ HLD.out HLC.out HLZ.out HE.out)
          go_wp2_with fail
          exact bodyPost_ret (v := .agg #[.int .i64 0, .bool neg, .slice (some ⟨b, off, none⟩) k c]) (by simp [results, Tryz.results135, go_sem, *]) rfl (by
            rw [← HLV.out, ← HLL.out]
            exact retI_box HBIG.out HP10.out HX.out.1 (Nat.le_refl _))
      · have HE : Hid (val L < 2305843009213693952) := small_two HLD.out (by rw [HLL.out]; omega)
        have hk2 : k < 3 := by omega
        clear h4 h3
        go_wp2_with fail
        go_loop [5, 6] (fun s i => ∃ j : Nat, j ≤ k ∧ s = .int .i64 ((val (L.drop j) : Nat) : Int) ∧ i = .int .i64 ((j : Int) - 1)) (fun _ i => (intOf i + 1).toNat)
        case atStart => exact ⟨k, Nat.le_refl _, by rw [List.drop_of_length_le (by rw [HLL.out]; omega)]; rfl, rfl⟩
        case round =>
          obtain ⟨j, hj, rfl, rfl⟩ := hrel
          rcases Nat.eq_zero_or_pos j with h0 | h0
          · subst h0
            rw [show (((0 : Nat) : Int) - 1) = -1 from rfl, List.drop_zero]
            have hvl : val L < 2305843009213693952 := HE.out
            have HV2 := Lib.hid (HLV.out)
            generalize hvx : val L = x at hvl HV2 ⊢
            clear hvx
            have hwr : IntKind.i64.wrap (-(x : Int)) = -(x : Int) := IntWalk.i64_in _ (by omega)
            obtain ⟨⟨p1, p2, p3, p4, p5, p6⟩, p7, p8, p9, p10⟩ := HX.out.2.1
            have HP10 := Lib.hid p10
            clear p10
            cases neg
            · go_wp2_with fail
              exact bodyPost_ret (v := .agg #[.int .i64 (x : Int), .bool false, .slice none 0 0]) (by simp [results, Tryz.results135, go_sem, *]) rfl (retI_box (by rw [← HV2.out]; exact RI.small _ (by rw [Edge_eq]; omega) _ _ (Nat.zero_le _)) HP10.out HX.out.1 (Nat.le_refl _))
            · go_wp2_with fail
              exact bodyPost_ret (v := .agg #[.int .i64 (-(x : Int)), .bool false, .slice none 0 0]) (by simp [results, Tryz.results135, go_sem, *]) rfl (retI_box (by rw [← HV2.out]; exact RI.small _ (by rw [Edge_eq]; omega) _ _ (Nat.zero_le _)) HP10.out HX.out.1 (Nat.le_refl _))
          · obtain ⟨m, rfl⟩ : ∃ m, j = m + 1 := ⟨j - 1, by omega⟩
            have ej : (((m + 1 : Nat) : Int) - 1) = (m : Int) := by omega
            rw [ej]
            clear ej h0
            obtain ⟨b, off, rfl, -, hcells⟩ := HLC.out (by rw [HLL.out]; omega)
            have hc1 := hcells m (by rw [HLL.out]; omega)
            clear hcells
            have hstep : Hid (val (L.drop m) = L.getD m 0 + Bs * val (L.drop (m + 1))) := val_drop (by rw [HLL.out]; omega)
            have hle : val (L.drop m) < 2305843009213693952 := Nat.lt_of_le_of_lt (val_drop_le L m) HE.out
            rw [hstep.out, Bs_eq] at hle
            obtain ⟨x, hx⟩ : ∃ x, L.getD m 0 = x := ⟨_, rfl⟩
            obtain ⟨y, hy⟩ : ∃ y, val (L.drop (m + 1)) = y := ⟨_, rfl⟩
            rw [hx] at hc1
            rw [hx, hy] at hle
            rw [hy]
            have HX1 := Lib.hid hx
            have HY1 := Lib.hid hy
            clear hx hy
            go_wp2_with fail
            exact ⟨⟨m, by omega, int_eq (by rw [hstep.out, HX1.out, HY1.out, Bs_eq]; omega), rfl⟩, by simp [intOf]⟩
def LstR (B : Nat) (w : World) (z : Nat) (o m : Value) (wr : World) : Prop :=
  ∃ (r : Nat) (l : List Nat), m = .int .i64 (r : Int) ∧ Own wr B o l ∧ Dl l ∧ (r = 0 → Nz l) ∧ l.length ≤ 3 ∧ val l + Bs ^ l.length * r = z ∧ Below B w wr
theorem LstR.next {B : Nat} {w w' : World} {z r : Nat} {l : List Nat} {o m : Value} {M : Int} (hz : z < Bs ^ 3) (hd : Dl l) (hr : 0 < r) (hv : val l + Bs ^ l.length * r = z) (hbel : Below B w w') (hown : Own w' B o (l ++ [r % Bs])) (hm : m = .int .i64 M) (hM : M = ((r / Bs : Nat) : Int)) : LstR B w z o m w' := by
  subst hm hM
  have h1 : l.length < 3 := by
    rcases Nat.lt_or_ge l.length 3 with h | h
    · exact h
    · have h2 : Bs ^ 3 ≤ Bs ^ l.length := Nat.pow_le_pow_right Bs_pos h
      have h3 : Bs ^ l.length * 1 ≤ Bs ^ l.length * r := Nat.mul_le_mul_left _ hr
      omega
  have h3 := Nat.div_add_mod r Bs
  refine ⟨r / Bs, _, rfl, hown, hd.snoc (Nat.mod_lt _ Bs_pos), fun h => Or.inr ?_, by simp; omega, ?_, hbel⟩
  · rw [List.length_append, List.length_singleton, Nat.add_sub_cancel, getD_snoc_new]
    rw [h, Nat.mul_zero] at h3
    omega
  · rw [val_snoc, List.length_append, List.length_singleton, Nat.pow_succ, Nat.mul_assoc, Nat.add_assoc, ← Nat.mul_add, Nat.add_comm (_ % _), h3]
    exact hv
theorem Edge_lt : Edge < Bs ^ 3 := by rw [Edge_eq, Bs_eq]; decide
theorem rlist_any (s : Int) (neg : Bool) (A : Option Addr) (n c : Nat) (z : Int) (w : World) (h : RI w s neg A n c z) (hn : n ≤ 1000000) :
    Calls Tryz.prog 134 #[.agg #[.int .i64 s, .bool neg, .slice A n c]] w (RetL (fun l => Nz l ∧ val l = z.natAbs) w) := by
  obtain ⟨l0, h1, h2, h3, h4, ⟨rfl, rfl, rfl, h5⟩ | ⟨h5, rfl, h6, h7, h8, h9⟩⟩ := h
  · have hs1 : -2305843009213693952 < s := by rw [Edge_eq] at h5; omega
    have hs2 : s < 2305843009213693952 := by rw [Edge_eq] at h5; omega
    have hmax : max s (-s) = ((s.natAbs : Nat) : Int) := by omega
    have hzz : s.natAbs < Bs ^ 3 := Nat.lt_trans h5 Edge_lt
    have HZZ := Lib.hid hzz
    have hzb : s.natAbs < 2305843009213693952 := h5
    obtain ⟨x, hx⟩ : ∃ x, s.natAbs = x := ⟨_, rfl⟩
    rw [hx] at hmax HZZ hzb
    have HX := Lib.hid hx
    clear h1 h2 h3 h4 h5 hzz hx
    rw [HX.out]
    have HB := Lib.hid (below_alloc w (.cells #[.int .i64 s, .bool false, .slice A 0 c] 84))
    go_enter Tryz.func134, Tryz.ntmps134
    go_wp2_with fail
    go_loopw [3, 4] (fun o m wr => LstR w.heap.size w x o m wr) (fun _ m _ => (intOf m).toNat)
    case atStart => exact ⟨x, [], rfl, Own.nil _ _, Dl.nil, fun _ => Or.inl rfl, by simp, by simp [val], HB.out⟩
    case round =>
      obtain ⟨r, l, rfl, hown, hd, hnz, hl, hv, hbel⟩ := hrel
      have hrx : r ≤ x := by
        have : 1 * r ≤ Bs ^ l.length * r := Nat.mul_le_mul_right _ (Bs_pow_pos _)
        omega
      have hll : l.length ≤ 1000000 := by omega
      have hsz := hbel.size
      have HBL := Lib.hid hbel
      have HV := Lib.hid hv
      have HD := Lib.hid hd
      have HNZ := Lib.hid hnz
      clear hbel hv hd hnz hmax
      rcases Nat.eq_zero_or_pos r with h0 | h0
      · subst h0
        go_wp2_with fail
        go_ret
        exact ⟨_, l, rfl, hown.ls HD.out, ⟨HNZ.out (by trivial), by have := HV.out; rw [Nat.mul_zero] at this; omega⟩, HBL.out⟩
      · go_wp2_with (at_builtin; refine wpList_push rfl _ _ rfl w.heap.size _ l rfl (hown.alloc _) wr.heap.size rfl _ (cell_new _ _ _) (r % Bs) (by rw [Bs_eq]; omega) hll (by simp; omega) (fun v' w' hown' hkeep => ?_))
        have HO := Lib.hid hown'
        have HKp := Lib.hid (hkeep w (HBL.out.alloc hsz _))
        clear hown' hkeep
        go_wp2_with fail
        go_roundw
        case rel => exact LstR.next HZZ.out HD.out h0 HV.out HKp.out HO.out rfl (by rw [Bs_eq]; omega)
        case measure => simp [intOf]; omega
  · have HR : Hid (∀ wx, Below w.heap.size w wx → RetL (fun l => Nz l ∧ val l = z.natAbs) w (.returned (.slice A n c)) wx) := fun wx hb => ⟨_, l0, rfl, ⟨A, c, by rw [h1], by rw [h1]; exact h2, h3, h4.keep hb⟩, ⟨h7, h8⟩, hb⟩
    clear h1 h2 h3 h4 h6 h7 h8 h9
    go_enter Tryz.func134, Tryz.ntmps134
    go_wp2_with fail
    go_ret
    exact HR.out _ (below_alloc w _)
theorem Own.lit (w : World) {B : Nat} (hB : B ≤ w.heap.size) {X : Int} {d : Nat} (hX : X = (d : Int)) : Own (w.alloc (.cells #[.int .i64 X] 3)) B (.slice (some ⟨w.heap.size, 0, none⟩) 1 1) [d] := by
  subst hX
  exact ⟨rfl, Or.inr ⟨w.heap.size, 1, #[.int .i64 (d : Int)], rfl, hB, heap_alloc_new w _, Nat.le_refl _, by unfold maxLen; omega, rfl, rfl⟩⟩
def LstN (B : Nat) (w : World) (z : Nat) (m o : Value) (wr : World) : Prop :=
  ∃ (M : Int) (r : Nat) (l : List Nat), m = .int .i64 M ∧ Hid (M = -(r : Int)) ∧ Own wr B o l ∧ Dl l ∧ (r = 0 → Nz l) ∧ l.length ≤ 3 ∧ val l + Bs ^ l.length * r = z ∧ Below B w wr
theorem LstN.of {B : Nat} {w w' : World} {z r : Nat} {o m m' : Value} (h : LstR B w z o m' w') (h' : m' = .int .i64 (r : Int)) {M : Int} (hm : m = .int .i64 M) (hM : M = -(r : Int)) : LstN B w z m o w' := by
  obtain ⟨r', l, h1, h2⟩ := h
  rw [h'] at h1
  injection h1 with _ h1
  have : r = r' := by omega
  subst this
  exact ⟨M, r, l, hm, hM, h2⟩
theorem rof_small (n : Int) (w : World) (h : n.natAbs < Edge) : Calls Tryz.prog 70 #[.int .i64 n] w (RetI n w) := by
  rw [Edge_eq] at h
  have HR : Hid (∀ wx, Below w.heap.size w wx → RetI n w (.returned (.agg #[.int .i64 n, .bool false, .slice none 0 0])) wx) := fun wx hb => retI (RI.small wx (by rw [Edge_eq]; exact h) none 0 (Nat.zero_le _)) hb
  have h1 : decide (-2305843009213693952 < n) = true := decide_eq_true (by omega)
  have h2 : decide (n < 2305843009213693952) = true := decide_eq_true (by omega)
  clear h
  go_enter Tryz.func70, Tryz.ntmps70
  go_wp2_with fail
  exact bodyPost_ret (v := .agg #[.int .i64 n, .bool false, .slice none 0 0]) (by simp [results, Tryz.results70, go_sem]) rfl (HR.out _ (below_alloc w _))
theorem rof_pos (x : Nat) (w : World) (h1 : Edge ≤ x) (h2 : x ≤ 9223372036854775807) : Calls Tryz.prog 70 #[.int .i64 (x : Int)] w (RetI (x : Int) w) := by
  have HE := Lib.hid h1
  rw [Edge_eq] at h1
  have g1 : decide (-2305843009213693952 < (x : Int)) = true := decide_eq_true (by omega)
  have g2 : decide ((x : Int) < 2305843009213693952) = false := decide_eq_false (by omega)
  have gs : decide ((x : Int) < 0) = false := decide_eq_false (by omega)
  have HZZ : Hid (x < Bs ^ 3) := by
    show x < Bs ^ 3
    rw [Bs_eq]; omega
  have hmx : max ((x : Int) % 1073741824) (-((x : Int) % 1073741824)) = ((x % 1073741824 : Nat) : Int) := by omega
  have H2 := Lib.hid h2
  clear h1 
  go_enter Tryz.func70, Tryz.ntmps70
  go_upto_region 3 with fail
  generalize hX : w.alloc _ = X
  have HX : Hid (Below w.heap.size w X ∧ W3 w.heap.size X ∧ w.heap.size ≤ X.heap.size) := by
    subst hX
    exact ⟨below_alloc w _, W3.new w _ _ _ rfl, by simp⟩
  clear hX
  have hXs := HX.out.2.2
  go_wp2_with fail
  go_loopw [4, 5] (fun m o wr => LstR X.heap.size X x o m wr) (fun m _ _ => (intOf m).natAbs)
  case atStart => exact ⟨x / Bs, [x % Bs], rfl, Own.lit X (Nat.le_refl _) rfl, Dl.nil.snoc (Nat.mod_lt _ Bs_pos), fun h => absurd h (by rw [Bs_eq]; have := HE.out; rw [Edge_eq] at this; omega), by simp, by rw [val_one]; simp only [List.length_singleton, Nat.pow_one]; exact Nat.mod_add_div x Bs, below_alloc X _⟩
  case round =>
    obtain ⟨r, l, rfl, hown, hd, hnz, hl, hv, hbel⟩ := hrel
    have hrx : r ≤ x := by
      have : 1 * r ≤ Bs ^ l.length * r := Nat.mul_le_mul_right _ (Bs_pow_pos _)
      omega
    have hll : l.length ≤ 1000000 := by omega
    have hsz := hbel.size
    have HBL := Lib.hid hbel
    have HV := Lib.hid hv
    have HD := Lib.hid hd
    have HNZ := Lib.hid hnz
    clear hbel hv hd hnz hmx 
    rcases Nat.eq_zero_or_pos r with h0 | h0
    · subst h0
      skip
      obtain ⟨A', c', rfl, hlc, hd', hLc⟩ := hown.ls HD.out
      have hval : val l = x := by have := HV.out; rw [Nat.mul_zero] at this; omega
      have hln : 0 < l.length := by
        rcases List.eq_nil_or_concat l with h | ⟨_, _, h⟩
        · have h5 := HE.out
          rw [h, val_nil] at hval
          rw [← hval, Edge_eq] at h5
          omega
        · rw [h]; simp
      have HRI : Hid (RI wr 0 false A' l.length c' (x : Int)) := ⟨l, rfl, hlc, hd', hLc, Or.inr ⟨hln, rfl, gs.symm, HNZ.out (by trivial), by rw [hval]; omega, by have h5 := HE.out; omega⟩⟩
      have HTB := Lib.hid (HX.out.1.trans (HBL.out.mono hXs))
      obtain ⟨⟨p1, p2, p3, p4, p5, p6⟩, p7, p8, p9, p10⟩ := HX.out.2.1.keep HBL.out
      have HP10 := Lib.hid p10
      have HLN := Lib.hid hln
      clear p10 hlc hd' hLc hval hln
      go_wp2_with fail
      exact bodyPost_ret (v := .agg #[.int .i64 0, .bool false, .slice A' l.length c']) (by simp [results, Tryz.results70, go_sem, *]) rfl (retI_box HRI.out HP10.out HTB.out (Nat.le_refl _))
    · skip
      have hmr : max ((r : Int) % 1073741824) (-((r : Int) % 1073741824)) = ((r % 1073741824 : Nat) : Int) := by omega
      have hne : ((r : Int) != 0) = true := by rw [bne_iff_ne]; omega
      go_wp2_with (at_builtin; refine wpList_push rfl _ _ rfl X.heap.size _ l rfl (hown.alloc _) wr.heap.size rfl _ (cell_new _ _ _) (r % Bs) (by first | rfl | (rw [Bs_eq]; first | rfl | omega)) hll (by simp; omega) (fun v' w' hown' hkeep => ?_))
      have HO := Lib.hid hown'
      have HKp := Lib.hid (hkeep X (HBL.out.alloc hsz _))
      clear hown' hkeep
      go_wp2_with fail
      go_roundw
      case rel => exact LstR.next HZZ.out HD.out h0 HV.out HKp.out HO.out rfl (by rw [Bs_eq]; omega)
      case measure => simp [intOf]; omega
theorem rof_neg (x : Nat) (N : Int) (hN : N = -(x : Int)) (w : World) (h1 : Edge ≤ x) (h2 : x ≤ 9223372036854775808) : Calls Tryz.prog 70 #[.int .i64 N] w (RetI N w) := by
  have HE := Lib.hid h1
  have HN := Lib.hid hN
  rw [Edge_eq] at h1
  have g1 : decide (-2305843009213693952 < N) = false := decide_eq_false (by omega)
  have g2 : decide (N < 2305843009213693952) = true := decide_eq_true (by omega)
  have gs : decide (N < 0) = true := decide_eq_true (by omega)
  have HZZ : Hid (x < Bs ^ 3) := by
    show x < Bs ^ 3
    rw [Bs_eq]; omega
  obtain ⟨p, hp⟩ : ∃ p, x % 1073741824 = p := ⟨_, rfl⟩
  obtain ⟨q, hq⟩ : ∃ q, x / 1073741824 = q := ⟨_, rfl⟩
  have hp1 : p < 1073741824 := by omega
  have hq1 : q ≤ 8589934592 := by omega
  have e1 : N.tmod 1073741824 = -(p : Int) := by rw [hN, Int.neg_tmod, ← hp]; rfl
  have e2 : N.tdiv 1073741824 = -(q : Int) := by rw [hN, Int.neg_tdiv, ← hq]; rfl
  have HP := Lib.hid hp
  have HQ := Lib.hid hq
  clear hp hq
  have hmx : max (-(p : Int)) (p : Int) = (p : Int) := by omega
  have H2 := Lib.hid h2
  clear h1 h2 hN
  go_enter Tryz.func70, Tryz.ntmps70
  go_upto_region 3 with fail
  generalize hX : w.alloc _ = X
  have HX : Hid (Below w.heap.size w X ∧ W3 w.heap.size X ∧ w.heap.size ≤ X.heap.size) := by
    subst hX
    exact ⟨below_alloc w _, W3.new w _ _ _ rfl, by simp⟩
  clear hX
  have hXs := HX.out.2.2
  go_wp2_with fail
  go_loopw [4, 5] (fun m o wr => LstN X.heap.size X x m o wr) (fun m _ _ => (intOf m).natAbs)
  case atStart => exact ⟨-(q : Int), q, [p], rfl, rfl, Own.lit X (Nat.le_refl _) rfl, Dl.nil.snoc (by rw [Bs_eq]; exact hp1), fun h => absurd h (by have := HE.out; have h7 := HQ.out; rw [Edge_eq] at this; omega), by simp, by rw [val_one]; simp only [List.length_singleton, Nat.pow_one]; have h7 := HP.out; have h8 := HQ.out; rw [Bs_eq]; omega, below_alloc X _⟩
  case round =>
    obtain ⟨M, r, l, rfl, hM, hown, hd, hnz, hl, hv, hbel⟩ := hrel
    have hrx : r ≤ x := by
      have : 1 * r ≤ Bs ^ l.length * r := Nat.mul_le_mul_right _ (Bs_pow_pos _)
      omega
    have hll : l.length ≤ 1000000 := by omega
    have hsz := hbel.size
    have HBL := Lib.hid hbel
    have HV := Lib.hid hv
    have HD := Lib.hid hd
    have HNZ := Lib.hid hnz
    clear hbel hv hd hnz hmx e1 e2 hp1 hq1 HP HQ
    rcases Nat.eq_zero_or_pos r with h0 | h0
    · subst h0
      have hM0 : M = 0 := by have := hM.out; omega
      subst hM0
      obtain ⟨A', c', rfl, hlc, hd', hLc⟩ := hown.ls HD.out
      have hval : val l = x := by have := HV.out; rw [Nat.mul_zero] at this; omega
      have hln : 0 < l.length := by
        rcases List.eq_nil_or_concat l with h | ⟨_, _, h⟩
        · have h5 := HE.out
          rw [h, val_nil] at hval
          rw [← hval, Edge_eq] at h5
          omega
        · rw [h]; simp
      have HRI : Hid (RI wr 0 true A' l.length c' N) := ⟨l, rfl, hlc, hd', hLc, Or.inr ⟨hln, rfl, gs.symm, HNZ.out (by trivial), by rw [hval]; have h6 := HN.out; omega, by have h5 := HE.out; have h6 := HN.out; omega⟩⟩
      have HTB := Lib.hid (HX.out.1.trans (HBL.out.mono hXs))
      obtain ⟨⟨p1, p2, p3, p4, p5, p6⟩, p7, p8, p9, p10⟩ := HX.out.2.1.keep HBL.out
      have HP10 := Lib.hid p10
      have HLN := Lib.hid hln
      clear p10 hlc hd' hLc hval hln
      go_wp2_with fail
      exact bodyPost_ret (v := .agg #[.int .i64 0, .bool true, .slice A' l.length c']) (by simp [results, Tryz.results70, go_sem, *]) rfl (retI_box HRI.out HP10.out HTB.out (Nat.le_refl _))
    · skip
      obtain ⟨p, hp⟩ : ∃ p, r % 1073741824 = p := ⟨_, rfl⟩
      obtain ⟨q, hq⟩ : ∃ q, r / 1073741824 = q := ⟨_, rfl⟩
      have hp1 : p < 1073741824 := by omega
      have hq1 : q ≤ 8589934592 := by have := H2.out; omega
      have e1 : M.tmod 1073741824 = -(p : Int) := by rw [hM.out, Int.neg_tmod, ← hp]; rfl
      have e2 : M.tdiv 1073741824 = -(q : Int) := by rw [hM.out, Int.neg_tdiv, ← hq]; rfl
      have HP := Lib.hid hp
      have HQ := Lib.hid hq
      clear hp hq
      have hmr : max (-(p : Int)) (p : Int) = (p : Int) := by omega
      have hne : (M != 0) = true := by have := hM.out; rw [bne_iff_ne]; omega
      go_wp2_with (at_builtin; refine wpList_push rfl _ _ rfl X.heap.size _ l rfl (hown.alloc _) wr.heap.size rfl _ (cell_new _ _ _) (p) (by first | rfl | (rw [Bs_eq]; first | rfl | omega)) hll (by simp; omega) (fun v' w' hown' hkeep => ?_))
      have HO := Lib.hid hown'
      have HKp := Lib.hid (hkeep X (HBL.out.alloc hsz _))
      clear hown' hkeep
      go_wp2_with fail
      go_roundw
      case rel => exact LstN.of (r := q) (LstR.next HZZ.out HD.out h0 HV.out HKp.out (by have h7 := HP.out; rw [Bs_eq, h7]; exact HO.out) rfl (by have h7 := HQ.out; rw [Bs_eq, h7])) rfl rfl rfl
      case measure => have h7 := HQ.out; have h8 := hM.out; simp [intOf]; omega
theorem V_three {f : Nat → Nat} {n i : Nat} (hf : ∀ j, j < n → f j < W) (h : V f n / W ^ i < W ^ 3) :
    V f n / W ^ i = ext f n i + W * ext f n (i + 1) + W * W * ext f n (i + 2) := by
  have dig : ∀ j, V f n / W ^ j % W = ext f n j := fun j => by
    by_cases g : j < n
    · rw [ext_in g]; exact V_digit hf g
    · rw [ext_out (by omega), Nat.div_eq_of_lt (Nat.lt_of_lt_of_le (V_lt hf) (pow_le (by omega))), Nat.zero_mod]
  have s1 : ∀ j, V f n / W ^ (j + 1) = V f n / W ^ j / W := fun j => by rw [pow_succ', Nat.div_div_eq_div_mul]
  have e0 := dig i
  have e1 := dig (i + 1)
  have e2 := dig (i + 2)
  have t1 := s1 i
  have t2 := s1 (i + 1)
  have e : i + 1 + 1 = i + 2 := rfl
  rw [e] at t2
  rw [t2, t1] at e2
  rw [t1] at e1
  have hW3 : W ^ 3 = W * W * W := by rw [Nat.pow_succ, Nat.pow_succ, Nat.pow_one]
  rw [hW3] at h
  generalize V f n / W ^ i = X at *
  rw [W_eq] at *
  omega
theorem window_val {l hi X s : Nat} (hs : s < 32) (hl : l < 18446744073709551616) (hh : hi < 4294967296) (hX : X = (l + 18446744073709551616 * hi) / 2 ^ s) (hlt : X < 1152921504606846976) :
    bits BinOp.or IntKind.u64 ((l : Int) / 2 ^ s) (IntKind.u64.wrap ((hi : Int) * 2 ^ (64 - s))) = (X : Int) ∧ (s = 0 → hi = 0) := by
  obtain ⟨p, hp⟩ : ∃ p, p = 2 ^ s := ⟨_, rfl⟩
  obtain ⟨r, hr⟩ : ∃ r, r = 2 ^ (64 - s) := ⟨_, rfl⟩
  have hpr : p * r = 18446744073709551616 := by rw [hp, hr, ← Nat.pow_add, show s + (64 - s) = 64 from by omega]
  have hp0 : 0 < p := by rw [hp]; exact two_pow_pos s
  have hr0 : 0 < r := by rw [hr]; exact two_pow_pos _
  have eX : X = l / p + r * hi := by
    rw [hX, ← hp, ← hpr, Nat.mul_assoc, Nat.add_mul_div_left _ _ hp0]
  have hrh : r * hi < 1152921504606846976 := Nat.lt_of_le_of_lt (by rw [eX]; exact Nat.le_add_left _ _) hlt
  have hlp : l / p < r := by
    rw [Nat.div_lt_iff_lt_mul hp0, Nat.mul_comm]
    omega
  constructor
  · rw [← two_pow_cast, ← two_pow_cast, ← hp, ← hr, ← Int.natCast_mul, ← Int.natCast_ediv, IntKind.wrap_u64]
    have e2 : ((hi * r : Nat) : Int) % 18446744073709551616 = ((hi * r : Nat) : Int) := by
      rw [Nat.mul_comm] at hrh
      omega
    rw [e2, u64_or_nat _ _ (by omega) (by rw [Nat.mul_comm]; omega), Nat.or_comm, nat_join (64 - s) (hi * r) (l / p) (by rw [← hr]; exact Nat.mul_mod_left _ _) (by rw [← hr]; exact hlp)]
    rw [eX, Nat.mul_comm hi r, Nat.add_comm]
  · intro h0
    subst h0
    have : r = 18446744073709551616 := hr
    rw [this] at hrh
    omega
end Go.Proofs.YtmfnpipmbpnfbaaGreatDoor
